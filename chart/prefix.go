package chart

import "shift/reading"

// beginning is a chart and what more there is to know when the word goes on behind its first letters.
type beginning struct {
	*Chart
	size  int
	opens [][]bool // by a name's number and a place: whether a word of the name begins with all that is behind the place
}

// Prefix tells how long the longest beginning of the word is with which a word of the start begins.
func (c *Chart) Prefix() int {
	for size := len(c.word); size > 0; size-- {
		if c.begins(size) {
			return size
		}
	}
	return 0
}

// begins tells whether a word of the start begins with so many letters of the word.
func (c *Chart) begins(size int) bool {
	b := beginning{Chart: c, size: size, opens: make([][]bool, len(c.counts))}
	for number := range b.opens {
		b.opens[number] = make([]bool, size)
	}
	for from := size - 1; from >= 0; from-- {
		for b.widen(from) {
		}
	}
	return b.opens[c.grammar.Number(c.grammar.Start())][0]
}

// widen finds the names that open at a place, and tells whether there are more than were known.
func (b *beginning) widen(from int) bool {
	widened := false
	for _, rule := range b.grammar.Rules {
		number := b.grammar.Number(rule.Name)
		if !b.opens[number][from] && b.row(rule.Right, from) {
			b.opens[number][from] = true
			widened = true
		}
	}
	return widened
}

// row tells whether a word of the signs begins with all that is behind a place. With nothing behind it any word does, and there is one: no name is without trees.
func (b *beginning) row(signs string, from int) bool {
	if from == b.size {
		return true
	}
	if signs == "" {
		return false
	}
	if reading.IsName(signs[0]) && b.opens[b.grammar.Number(signs[0])][from] {
		return true
	}
	for cut := from; cut <= b.size; cut++ {
		if b.sign(signs[0], from, cut) > 0 && b.row(signs[1:], cut) {
			return true
		}
	}
	return false
}
