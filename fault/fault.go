// Package fault holds what can be wrong with a text or a table, as errors that wrap one another.
package fault

import (
	"errors"
	"strconv"
)

// Why a text is refused: errors.Is asks for these.
var (
	Long   = errors.New("longer than it may be")
	Text   = errors.New("no grammar goes on like this")
	Name   = errors.New("a name that no rule has")
	Barren = errors.New("a name without trees")
	Letter = errors.New("no letter")
	Table  = errors.New("no state is written like this")
	Item   = errors.New("an item or an edge that cannot be")
	Start  = errors.New("no state to begin in")
	Closed = errors.New("an item is missing")
	Edge   = errors.New("an edge is missing, or one too many")
	Reason = errors.New("an item without a reason")
	Clash  = errors.New("two things to do")
	None   = errors.New("no table is for it")
	Reject = errors.New("no word goes on like this")
)

// At wraps a reason with its place, a byte of the text or a state of a table; errors.As asks for it.
type At struct {
	Place int
	Cause error
}

func (a At) Error() string { return "at " + strconv.Itoa(a.Place) + ": " + a.Cause.Error() }

func (a At) Unwrap() error { return a.Cause }

// In wraps an error with the kind of the text, as one reason (Long, say) may be meant of several kinds.
type In struct {
	Kind  string
	Cause error
}

func (i In) Error() string { return i.Kind + ": " + i.Cause.Error() }

func (i In) Unwrap() error { return i.Cause }
