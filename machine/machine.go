// Package machine reads words by tables, from the left to the right, one letter ahead, with a stack.
package machine

import (
	"shift/follow"
	"shift/reading"
)

// Machine is a table that words are read by. It relies on all that the checker asks of a table.
type Machine struct {
	grammar *reading.Grammar
	rules   *follow.Rules
	states  []state
}

// state is a state of the table with what it does at each mark.
type state struct {
	reading.State
	act func(mark byte) deed
}

// New makes a machine of a table that the checker takes.
func New(grammar *reading.Grammar, table *reading.Table) *Machine {
	m := &Machine{grammar: grammar, rules: follow.New(grammar)}
	for _, s := range table.States {
		m.states = append(m.states, state{State: s, act: m.acts(s)})
	}
	return m
}

// acts tells what a state does at each mark. The checker has seen to it that there is only one thing to do.
func (m *Machine) acts(s reading.State) func(mark byte) deed {
	return func(mark byte) deed {
		for _, item := range s.Items {
			if _, wants := m.rules.Want(item); !wants && item.Marks.Holds(reading.MarkOf(mark)) {
				return m.end(item.Rule, mark)
			}
		}
		if edge, ok := s.Edge(mark); ok {
			return along(edge)
		}
		return stop
	}
}

// end tells what is done where a rule has come to its end. A table may give `*` more marks than End, but there is nothing behind a word.
func (m *Machine) end(rule int, mark byte) deed {
	switch {
	case rule != reading.Star:
		return m.back(rule)
	case mark == reading.End:
		return finish
	}
	return stop
}
