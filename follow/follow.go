// Package follow tells what items want, and what may follow their wants.
package follow

import "shift/reading"

// Rules is a grammar as items see it: with the rule `*`, and with the beginnings of its names' words.
type Rules struct {
	grammar *reading.Grammar
	firsts  []reading.Marks // by a name's number: the first letters of its words, and End if the empty text is one of them
}

// New finds the beginnings of all names' words.
func New(grammar *reading.Grammar) *Rules {
	r := &Rules{grammar: grammar, firsts: make([]reading.Marks, grammar.Names())}
	for r.grow() {
	}
	return r
}

// grow finds more beginnings by those that are known, and tells whether there are any.
func (r *Rules) grow() bool {
	grown := false
	for _, rule := range r.grammar.Rules {
		number := r.grammar.Number(rule.Name)
		if first := r.row(rule.Right); !r.firsts[number].Holds(first) {
			r.firsts[number] |= first
			grown = true
		}
	}
	return grown
}

// row finds the first letters of the words of signs, and End if the empty text is one of them.
func (r *Rules) row(signs string) reading.Marks {
	end := reading.MarkOf(reading.End)
	found := reading.Marks(0)
	for i := range len(signs) {
		first := r.sign(signs[i])
		found |= first &^ end
		if !first.Holds(end) {
			return found
		}
	}
	return found | end
}

func (r *Rules) sign(sign byte) reading.Marks {
	if reading.IsName(sign) {
		return r.firsts[r.grammar.Number(sign)]
	}
	return reading.MarkOf(sign)
}

// Right is the right side of a rule.
func (r *Rules) Right(rule int) string {
	if rule == reading.Star {
		return string([]byte{r.grammar.Start()})
	}
	return r.grammar.Rules[rule].Right
}

// Have tells whether an item can be: its rule is there, and its place is in or right behind the right side.
func (r *Rules) Have(item reading.Item) bool {
	return item.Rule < len(r.grammar.Rules) && item.Place <= len(r.Right(item.Rule))
}

// Want is the sign that an item wants, if it wants one.
func (r *Rules) Want(item reading.Item) (byte, bool) {
	right := r.Right(item.Rule)
	if item.Place == len(right) {
		return 0, false
	}
	return right[item.Place], true
}

// Follow is what may follow the want of an item that wants a sign.
func (r *Rules) Follow(item reading.Item) reading.Marks {
	end := reading.MarkOf(reading.End)
	found := r.row(r.Right(item.Rule)[item.Place+1:])
	if found.Holds(end) {
		return found&^end | item.Marks
	}
	return found
}
