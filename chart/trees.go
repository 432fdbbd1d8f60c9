package chart

import "shift/reading"

// Trees tells how many trees of the start have the word (2 stands for more than one), and the text of the only one.
func (c *Chart) Trees() (int, string) {
	start, end := c.grammar.Start(), len(c.word)
	count := c.sign(start, 0, end)
	if count != 1 {
		return count, ""
	}
	return count, string(c.appendTree(nil, start, 0, end))
}

// appendTree writes the only tree of a name for a piece. As there is just one, the first rule that can be is its rule.
func (c *Chart) appendTree(text []byte, name byte, from, to int) []byte {
	for number, rule := range c.grammar.Rules {
		if rule.Name == name && c.rows(rule.Right, from, to) > 0 {
			text = append(text, '0'+byte(number))
			return c.appendRow(text, rule.Right, from, to)
		}
	}
	return text
}

// appendRow writes the trees of the names among signs that make a piece in just one way.
func (c *Chart) appendRow(text []byte, signs string, from, to int) []byte {
	for i := range len(signs) {
		cut := c.cut(signs[i:], from, to)
		if reading.IsName(signs[i]) {
			text = c.appendTree(text, signs[i], from, cut)
		}
		from = cut
	}
	return text
}

// cut finds where the first of the signs ends in a piece that they make.
func (c *Chart) cut(signs string, from, to int) int {
	for cut := from; cut < to; cut++ {
		if c.sign(signs[0], from, cut) > 0 && c.rows(signs[1:], cut, to) > 0 {
			return cut
		}
	}
	return to
}
