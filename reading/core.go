// Package reading takes texts apart: grammars, words and tables.
package reading

import "shift/fault"

// core is what the readers of every kind of text have in common. Each embeds it.
type core struct {
	kind string
	text string
	at   int
}

// ended tells whether nothing is left to read.
func (c *core) ended() bool { return c.at == len(c.text) }

// within refuses a text of more than bound bytes. It names no place: none of its bytes is at fault.
func (c *core) within(bound int) error {
	if len(c.text) <= bound {
		return nil
	}
	return fault.In{Kind: c.kind, Cause: fault.Long}
}

// take reads one byte, if there is one that fits.
func (c *core) take(fits func(byte) bool) bool {
	if c.ended() || !fits(c.text[c.at]) {
		return false
	}
	c.at++
	return true
}

// run reads bytes as long as they fit, but at most so many.
func (c *core) run(most int, fits func(byte) bool) string {
	from := c.at
	for c.at-from < most && c.take(fits) {
	}
	return c.text[from:c.at]
}

// wrong tells what is wrong with the text, and at which place.
func (c *core) wrong(place int, reason error) error {
	return fault.In{Kind: c.kind, Cause: fault.At{Place: place, Cause: reason}}
}

// IsName tells whether a byte is a name.
func IsName(b byte) bool { return 'A' <= b && b <= 'Z' }

// IsLetter tells whether a byte is a letter of words.
func IsLetter(b byte) bool { return 'a' <= b && b <= 'z' }

func isSign(b byte) bool { return IsName(b) || IsLetter(b) }

// only fits one byte and no other.
func only(wanted byte) func(byte) bool {
	return func(b byte) bool { return b == wanted }
}
