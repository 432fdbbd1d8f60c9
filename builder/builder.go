// Package builder makes tables.
//
// States that differ by their marks alone are laid together wherever no clash can come of it. Where that is so everywhere, no table is smaller: each one has states of all cores, and those of one core have, together, all of its marks.
package builder

import (
	"shift/fault"
	"shift/reading"
)

// bounds are how many states a table may have, and how many bytes its text.
type bounds struct {
	states, bytes int
}

// Build makes the text of a table, or tells that there is none.
func Build(grammar *reading.Grammar) (string, error) {
	text, ok := build(grammar, bounds{states: reading.MaxStates, bytes: reading.MaxTable})
	if !ok {
		return "", fault.In{Kind: "grammar", Cause: fault.None}
	}
	return text, nil
}

func build(grammar *reading.Grammar, most bounds) (string, bool) {
	all := newItems(grammar)
	f := newFoes(all)
	if f.between(all.begin(), all.begin()) {
		return "", false
	}
	grown, ok := grow(all, f, most.states)
	if !ok {
		return "", false
	}
	states := written(all, settled(all, grown))
	if len(states) > most.states {
		return "", false
	}
	table := reading.Table{States: states}
	text := table.Text()
	return text, len(text) <= most.bytes
}
