package machine

import (
	"strconv"
	"strings"

	"shift/fault"
	"shift/reading"
)

// run is the reading of one word.
type run struct {
	machine *Machine
	word    string
	at      int
	path    []step
	read    bool
}

// step is a state on the way from state 0, and the text of the tree by whose name one came there (none, by a letter).
type step struct {
	state int
	text  string
}

// deed is what a state does at a mark; it tells whether reading goes on.
type deed func(*run) bool

// Read reads a word. It answers the text of its tree, or tells how far words of the grammar go on like this.
func (m *Machine) Read(word string) (string, error) {
	r := &run{machine: m, word: word, path: []step{{state: 0}}}
	for r.here().act(r.next())(r) {
	}
	if !r.read {
		return "", fault.In{Kind: "word", Cause: fault.At{Place: r.at, Cause: fault.Reject}}
	}
	return r.path[len(r.path)-1].text, nil
}

// here is the state in which one stands.
func (r *run) here() state { return r.machine.states[r.path[len(r.path)-1].state] }

// next is the next mark.
func (r *run) next() byte {
	if r.at == len(r.word) {
		return reading.End
	}
	return r.word[r.at]
}

// along goes along an edge of the next letter.
func along(edge reading.Edge) deed {
	return func(r *run) bool {
		r.at++
		r.path = append(r.path, step{state: edge.To})
		return true
	}
}

// back goes back over the right side of a rule and along the edge of its name.
func (m *Machine) back(rule int) deed {
	return func(r *run) bool {
		from := len(r.path) - len(m.rules.Right(rule))
		text := treeText(rule, r.path[from:])
		r.path = r.path[:from]
		edge, _ := r.here().Edge(m.grammar.Rules[rule].Name)
		r.path = append(r.path, step{state: edge.To, text: text})
		return true
	}
}

// treeText is the text of a rule's tree over those by which one came along its right side.
func treeText(rule int, path []step) string {
	var text strings.Builder
	text.WriteString(strconv.Itoa(rule))
	for _, s := range path {
		text.WriteString(s.text)
	}
	return text.String()
}

func finish(r *run) bool {
	r.read = true
	return false
}

func stop(*run) bool { return false }
