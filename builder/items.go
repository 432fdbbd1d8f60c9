package builder

import (
	"shift/follow"
	"shift/reading"
)

// maxItems is how many items a grammar can have: one for each place of each rule, and the two of `*`.
const maxItems = reading.MaxRules*(reading.MaxRight+1) + 2

// marking is the marks of each item of a state, by the item's number. An item without marks is not there.
type marking [maxItems]reading.Marks

// core is which items are there, whatever their marks.
type core [maxItems]bool

// kind is what an item is but for its marks.
type kind struct {
	rule, place int
	want        byte          // the sign that it wants, or 0
	opened      []int         // the items at 0 of the rules of the name that it wants
	letters     reading.Marks // what may follow its want, whatever its marks
	through     bool          // its marks may follow its want, too
}

// items are the items of a grammar, numbered as they rise: one place further in a rule is one number further.
type items []kind

func newItems(grammar *reading.Grammar) items {
	rules := follow.New(grammar)
	var all items
	firsts := map[byte][]int{}
	for rule := reading.Star; rule < len(grammar.Rules); rule++ {
		if rule != reading.Star {
			name := grammar.Rules[rule].Name
			firsts[name] = append(firsts[name], len(all))
		}
		for place := range len(rules.Right(rule)) + 1 {
			all = append(all, newKind(rules, rule, place))
		}
	}
	for i := range all {
		all[i].opened = firsts[all[i].want]
	}
	return all
}

func newKind(rules *follow.Rules, rule, place int) kind {
	k := kind{rule: rule, place: place}
	item := reading.Item{Rule: rule, Place: place, Marks: reading.MarkOf(reading.End)}
	want, wants := rules.Want(item)
	if !wants {
		return k
	}
	k.want = want
	k.letters = rules.Follow(item) &^ item.Marks
	k.through = rules.Follow(item).Holds(item.Marks) // no other End can be there
	return k
}

// ended tells whether the place of an item is at the end of its right side.
func (k kind) ended() bool { return k.want == 0 }

// follow is what may follow the want of an item of that kind that has the marks.
func (k kind) follow(marks reading.Marks) reading.Marks {
	if k.through {
		return k.letters | marks
	}
	return k.letters
}

// marks are those that an item can need: no other letter is ever wanted.
func (all items) marks() reading.Marks {
	marks := reading.MarkOf(reading.End)
	for _, k := range all {
		marks |= reading.MarkOf(k.want)
	}
	return marks
}

// begin is how a table begins: with `*` at 0, and what that asks for.
func (all items) begin() marking {
	return all.closed(marking{0: reading.MarkOf(reading.End)})
}

// closed adds what the wants of the items ask for, and no more.
func (all items) closed(m marking) marking {
	for grown := true; grown; {
		grown = false
		for i, k := range all {
			if m[i] == 0 {
				continue
			}
			follow := k.follow(m[i])
			for _, opened := range k.opened {
				grown = grown || !m[opened].Holds(follow)
				m[opened] |= follow
			}
		}
	}
	return m
}

// signs are those that the items want, rising.
func (all items) signs(m marking) []byte {
	var wanted [128]bool
	for i, k := range all {
		if m[i] != 0 && !k.ended() {
			wanted[k.want] = true
		}
	}
	var signs []byte
	for sign, is := range wanted {
		if is {
			signs = append(signs, byte(sign))
		}
	}
	return signs
}

// behind is what must stand behind an edge of a sign.
func (all items) behind(m marking, sign byte) marking {
	var next marking
	for i, k := range all {
		if k.want == sign {
			next[i+1] = m[i]
		}
	}
	return all.closed(next)
}

// core tells which items have marks.
func (m marking) core() core {
	var c core
	for i, marks := range m {
		c[i] = marks != 0
	}
	return c
}

// add takes the marks of another one, and tells whether any of them are new.
func (m *marking) add(other marking) bool {
	before := *m
	for i, marks := range other {
		m[i] |= marks
	}
	return *m != before
}
