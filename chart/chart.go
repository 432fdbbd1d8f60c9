// Package chart tells of every piece of a word by how many trees of each name it is made.
package chart

import "shift/reading"

// many stands for every count above one: nothing asks how many more, and with rules that come back to themselves there is no end of them.
const many = 2

// Chart holds the counts of trees for the pieces of one word.
type Chart struct {
	grammar *reading.Grammar
	word    string
	counts  [][][]int // by a name's number, and where a piece begins and ends
}

// New counts the trees of all pieces of a word.
func New(grammar *reading.Grammar, word string) *Chart {
	c := &Chart{grammar: grammar, word: word, counts: make([][][]int, grammar.Names())}
	for number := range c.counts {
		c.counts[number] = make([][]int, len(word)+1)
		for from := range c.counts[number] {
			c.counts[number][from] = make([]int, len(word)+1)
		}
	}
	c.fill()
	return c
}

// fill goes from the short pieces to the long ones, as a tree's trees have no longer pieces than it has. They may have the same piece, so each is counted until no count grows.
func (c *Chart) fill() {
	for size := range len(c.word) + 1 {
		for from := range len(c.word) - size + 1 {
			for c.grow(from, from+size) {
			}
		}
	}
}

// grow counts the trees of one piece anew, and tells whether there are more than were known.
func (c *Chart) grow(from, to int) bool {
	sums := make([]int, len(c.counts))
	for _, rule := range c.grammar.Rules {
		number := c.grammar.Number(rule.Name)
		sums[number] = min(many, sums[number]+c.rows(rule.Right, from, to))
	}
	grown := false
	for number, sum := range sums {
		if sum > c.counts[number][from][to] {
			c.counts[number][from][to] = sum
			grown = true
		}
	}
	return grown
}

// rows counts in how many ways a piece is made of signs: by where it is cut, and by the trees of the names.
func (c *Chart) rows(signs string, from, to int) int {
	switch len(signs) {
	case 0:
		if from == to {
			return 1
		}
		return 0
	case 1:
		return c.sign(signs[0], from, to)
	}
	sum := 0
	for cut := from; cut <= to && sum < many; cut++ {
		if head := c.sign(signs[0], from, cut); head > 0 {
			sum = min(many, sum+head*c.rows(signs[1:], cut, to))
		}
	}
	return sum
}

// sign counts in how many ways a piece is made of one sign.
func (c *Chart) sign(sign byte, from, to int) int {
	if reading.IsName(sign) {
		return c.counts[c.grammar.Number(sign)][from][to]
	}
	if to == from+1 && c.word[from] == sign {
		return 1
	}
	return 0
}
