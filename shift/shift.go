// Package shift: grammars, tables that say how to read by them, a checker that trusts no table, and a reader: see DOC.md.
package shift

import (
	"shift/builder"
	"shift/chart"
	"shift/checker"
	"shift/machine"
	"shift/reading"
)

// Errno is what a call answers: OK or the reason for a refusal.
type Errno int

const (
	OK        Errno = 0
	ErrLong   Errno = 1  // a text above its bound
	ErrText   Errno = 2  // no grammar
	ErrName   Errno = 3  // a name that no rule has
	ErrBarren Errno = 4  // a name without trees
	ErrLetter Errno = 5  // no word
	ErrTable  Errno = 6  // no table
	ErrItem   Errno = 7  // an item or an edge that cannot be
	ErrStart  Errno = 8  // a state 0 that is none
	ErrClosed Errno = 9  // an item that is missing
	ErrEdge   Errno = 10 // an edge that is missing, or too many
	ErrReason Errno = 11 // an item without a reason
	ErrClash  Errno = 12 // two things to do
	ErrNone   Errno = 13 // there is no table
	ErrReject Errno = 14 // a word that does not belong
)

// Check tells whether a text is a grammar (P3).
func Check(grammar string) (Errno, int) {
	_, err := reading.ReadGrammar(grammar)
	return number(err), place(err)
}

// Trees tells how many trees a word has, and the one (P4).
func Trees(grammar string, word string) (int, string, Errno, int) {
	c, err := read(grammar, word)
	if err != nil {
		return 0, "", number(err), place(err)
	}
	count, text := c.Trees()
	return count, text, OK, 0
}

// Prefix tells how much of a word can stand (P5).
func Prefix(grammar string, word string) (int, Errno, int) {
	c, err := read(grammar, word)
	if err != nil {
		return 0, number(err), place(err)
	}
	return c.Prefix(), OK, 0
}

// Valid tells whether one may read by a table (P6).
func Valid(grammar string, table string) (Errno, int) {
	_, err := trust(grammar, table)
	return number(err), place(err)
}

// Build makes a table (P7).
func Build(grammar string) (string, Errno, int) {
	g, err := reading.ReadGrammar(grammar)
	if err != nil {
		return "", number(err), place(err)
	}
	table, err := builder.Build(g)
	return table, number(err), place(err)
}

// Parse reads a word by a table (P8, P9).
func Parse(grammar string, table string, word string) (string, Errno, int) {
	m, err := trust(grammar, table)
	if err != nil {
		return "", number(err), place(err)
	}
	w, err := reading.ReadWord(word)
	if err != nil {
		return "", number(err), place(err)
	}
	tree, err := m.Read(w)
	return tree, number(err), place(err)
}

// read reads a grammar, then a word, so that what is wrong with the grammar comes first.
func read(grammar string, word string) (*chart.Chart, error) {
	g, err := reading.ReadGrammar(grammar)
	if err != nil {
		return nil, err
	}
	w, err := reading.ReadWord(word)
	if err != nil {
		return nil, err
	}
	return chart.New(g, w), nil
}

// trust makes a table one to read by, or tells why one may not: what is wrong with the grammar comes first.
func trust(grammar string, table string) (*machine.Machine, error) {
	g, err := reading.ReadGrammar(grammar)
	if err != nil {
		return nil, err
	}
	t, err := reading.ReadTable(table)
	if err != nil {
		return nil, err
	}
	if err := checker.Check(g, t); err != nil {
		return nil, err
	}
	return machine.New(g, t), nil
}
