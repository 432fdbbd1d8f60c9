package reading

import "shift/fault"

// The bounds of a table.
const (
	MaxTable  = 200000 // bytes
	MaxStates = 999
)

// Star is the number of the rule `*`: below those of a grammar's rules.
const Star = -1

// numberSize is how many digits the number of a state has in an edge.
const numberSize = 3

// Item is a rule's number, a place in its right side, and marks.
type Item struct {
	Rule  int
	Place int
	Marks Marks
}

// Edge leads from a state, by a sign, to the state of a number.
type Edge struct {
	Sign byte
	To   int
}

// State is one state of a table, its items and edges rising.
type State struct {
	Items []Item
	Edges []Edge
}

// Table is a text taken apart. Nothing is known of its rules and numbers: a table may be for no grammar at all.
type Table struct {
	States []State
}

// Item finds the item of a rule at a place.
func (s State) Item(rule, place int) (Item, bool) {
	for _, item := range s.Items {
		if item.Rule == rule && item.Place == place {
			return item, true
		}
	}
	return Item{}, false
}

// Edge finds the edge of a sign.
func (s State) Edge(sign byte) (Edge, bool) {
	for _, edge := range s.Edges {
		if edge.Sign == sign {
			return edge, true
		}
	}
	return Edge{}, false
}

// addItem takes one more item, if it is above those that are there.
func (s *State) addItem(item Item) bool {
	if count := len(s.Items); count > 0 && !s.Items[count-1].below(item) {
		return false
	}
	s.Items = append(s.Items, item)
	return true
}

// addEdge takes one more edge, if it is above those that are there.
func (s *State) addEdge(edge Edge) bool {
	if count := len(s.Edges); count > 0 && s.Edges[count-1].Sign >= edge.Sign {
		return false
	}
	s.Edges = append(s.Edges, edge)
	return true
}

// below tells whether an item's rule and place are below another's.
func (i Item) below(other Item) bool {
	if i.Rule != other.Rule {
		return i.Rule < other.Rule
	}
	return i.Place < other.Place
}

type tableReader struct {
	core
}

// ReadTable takes the text of a table apart, or tells why it is none.
func ReadTable(text string) (*Table, error) {
	r := tableReader{core{kind: "table", text: text}}
	if err := r.within(MaxTable); err != nil {
		return nil, err
	}
	states, ok := r.scan()
	if !ok {
		return nil, r.wrong(len(states), fault.Table)
	}
	return &Table{States: states}, nil
}

// scan reads states as long as they are good. A label is what must come next, a goto what was found.
func (r *tableReader) scan() ([]State, bool) {
	var states []State
	var state State
	var item Item
	var edge Edge
	var ok bool

nextState:
	if len(states) == MaxStates {
		goto wrong
	}
	state = State{}
nextItem:
	if item, ok = r.item(); !ok || !state.addItem(item) {
		goto wrong
	}
	if r.take(only(',')) {
		goto nextItem
	}
	if !r.take(only('>')) {
		goto wrong
	}
nextEdge:
	if r.ended() {
		return append(states, state), true
	}
	if r.take(only(';')) {
		states = append(states, state)
		goto nextState
	}
	if edge, ok = r.edge(); !ok || !state.addEdge(edge) {
		goto wrong
	}
	goto nextEdge
wrong:
	return states, false
}

// item reads an item.
func (r *tableReader) item() (Item, bool) {
	rule, place := r.run(1, isRule), r.run(1, isDigit)
	marks, rising := risingMarks(r.run(MaxMarks, isMark))
	if rule == "" || place == "" || !rising {
		return Item{}, false
	}
	return Item{Rule: ruleNumber(rule), Place: decimal(place), Marks: marks}, true
}

// edge reads an edge.
func (r *tableReader) edge() (Edge, bool) {
	sign, number := r.run(1, isSign), r.run(numberSize, isDigit)
	if sign == "" || len(number) < numberSize {
		return Edge{}, false
	}
	return Edge{Sign: sign[0], To: decimal(number)}, true
}

func isDigit(b byte) bool { return '0' <= b && b <= '9' }

func isRule(b byte) bool { return b == '*' || isDigit(b) }

// ruleNumber is the number of the rule that a text of one byte names.
func ruleNumber(text string) int {
	if text == "*" {
		return Star
	}
	return decimal(text)
}

// decimal is the number that a text of digits writes.
func decimal(text string) int {
	number := 0
	for i := range len(text) {
		number = number*10 + int(text[i]-'0')
	}
	return number
}
