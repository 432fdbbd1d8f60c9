package checker

import (
	"shift/fault"
	"shift/reading"
)

// view is one state among the others, as a worker looks at it.
type view struct {
	*checker
	number int
	state  reading.State
}

func (c *checker) view(number int) view {
	return view{checker: c, number: number, state: c.states[number]}
}

// ask answers the first of the questions that goes wrong.
func (v view) ask(questions []func(view) error) error {
	for _, question := range questions {
		if err := question(v); err != nil {
			return err
		}
	}
	return nil
}

// sound asks whether the items can be, and the edges lead somewhere. Nothing else may be asked ahead of it.
func (v view) sound() error {
	for _, item := range v.state.Items {
		if !v.rules.Have(item) {
			return fault.Item
		}
	}
	for _, edge := range v.state.Edges {
		if edge.To >= len(v.states) {
			return fault.Item
		}
	}
	return nil
}

// closed asks whether the rules of each name that is wanted are there, with all marks that may follow.
func (v view) closed() error {
	for _, item := range v.state.Items {
		if sign, wants := v.rules.Want(item); wants && !v.opens(sign, v.rules.Follow(item)) {
			return fault.Closed
		}
	}
	return nil
}

// opens tells whether each rule of a name stands in the state at 0 with all of the marks. (No rule has a letter as its name.)
func (v view) opens(name byte, marks reading.Marks) bool {
	for number, rule := range v.grammar.Rules {
		if rule.Name == name && !stands(v.state, reading.Item{Rule: number, Place: 0, Marks: marks}) {
			return false
		}
	}
	return true
}

// joined asks whether each item that wants a sign has its edge, and no edge is there that none wants.
func (v view) joined() error {
	for _, item := range v.state.Items {
		if sign, wants := v.rules.Want(item); wants && !v.leads(sign, item) {
			return fault.Edge
		}
	}
	for _, edge := range v.state.Edges {
		if !v.wants(edge.Sign) {
			return fault.Edge
		}
	}
	return nil
}

// leads tells whether the edge of a sign leads to where an item's rule stands one place further, with all of its marks.
func (v view) leads(sign byte, item reading.Item) bool {
	edge, ok := v.state.Edge(sign)
	item.Place++
	return ok && stands(v.states[edge.To], item)
}

// reasoned asks whether each item at 0 is wanted here, and each other one behind an edge of the state comes from here.
func (v view) reasoned() error {
	for _, item := range v.state.Items {
		if item.Place == 0 && !v.calls(item.Rule) {
			return fault.Reason
		}
	}
	for _, edge := range v.state.Edges {
		for _, item := range v.states[edge.To].Items {
			if item.Place != 0 && !v.sends(edge.Sign, item) {
				return fault.Reason
			}
		}
	}
	return nil
}

// calls tells whether a rule may stand in the state at 0. No item can want `*`: it begins state 0, and no other.
func (v view) calls(rule int) bool {
	if rule == reading.Star {
		return v.number == 0
	}
	return v.wants(v.grammar.Rules[rule].Name)
}

// sends tells whether an item comes, by a sign, from the same rule one place earlier in the state.
func (v view) sends(sign byte, item reading.Item) bool {
	_, ok := v.state.Item(item.Rule, item.Place-1)
	return ok && v.rules.Right(item.Rule)[item.Place-1] == sign
}

// wants tells whether an item of the state wants a sign.
func (v view) wants(wanted byte) bool {
	for _, item := range v.state.Items {
		if sign, wants := v.rules.Want(item); wants && sign == wanted {
			return true
		}
	}
	return false
}

// decided asks whether there is never more than one thing to do.
func (v view) decided() error {
	var wanted, ended reading.Marks
	for _, item := range v.state.Items {
		if sign, wants := v.rules.Want(item); wants {
			wanted |= reading.MarkOf(sign)
			continue
		}
		if ended.Meets(item.Marks) {
			return fault.Clash
		}
		ended |= item.Marks
	}
	if ended.Meets(wanted) {
		return fault.Clash
	}
	return nil
}

// stands tells whether an item's rule stands in a state at its place, with all of its marks.
func stands(state reading.State, item reading.Item) bool {
	found, ok := state.Item(item.Rule, item.Place)
	return ok && found.Marks.Holds(item.Marks)
}
