package shift

import (
	"errors"

	"shift/fault"
)

// number finds the number of the reason that an error wraps.
func number(err error) Errno {
	switch {
	case errors.Is(err, fault.Long):
		return ErrLong
	case errors.Is(err, fault.Text):
		return ErrText
	case errors.Is(err, fault.Name):
		return ErrName
	case errors.Is(err, fault.Barren):
		return ErrBarren
	case errors.Is(err, fault.Letter):
		return ErrLetter
	case errors.Is(err, fault.Table):
		return ErrTable
	case errors.Is(err, fault.Item):
		return ErrItem
	case errors.Is(err, fault.Start):
		return ErrStart
	case errors.Is(err, fault.Closed):
		return ErrClosed
	case errors.Is(err, fault.Edge):
		return ErrEdge
	case errors.Is(err, fault.Reason):
		return ErrReason
	case errors.Is(err, fault.Clash):
		return ErrClash
	case errors.Is(err, fault.None):
		return ErrNone
	case errors.Is(err, fault.Reject):
		return ErrReject
	}
	return OK
}

// place finds the place that an error wraps, or 0 if it has none.
func place(err error) int {
	var at fault.At
	if errors.As(err, &at) {
		return at.Place
	}
	return 0
}
