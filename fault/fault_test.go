package fault

import (
	"errors"
	"testing"
)

func TestWrapping(t *testing.T) {
	err := error(In{Kind: "word", Cause: At{Place: 7, Cause: Letter}})
	if !errors.Is(err, Letter) {
		t.Error("the reason is not found under what wraps it")
	}
	for _, other := range []error{Long, Text, Name, Barren} {
		if errors.Is(err, other) {
			t.Errorf("%v is taken for %v", err, other)
		}
	}
	var at At
	if !errors.As(err, &at) || at.Place != 7 {
		t.Errorf("the place is not found: %v", at)
	}
	var in In
	if !errors.As(err, &in) || in.Kind != "word" {
		t.Errorf("the kind is not found: %v", in)
	}
	if got, want := err.Error(), "word: at 7: no letter"; got != want {
		t.Errorf("Error() = %q, want %q", got, want)
	}
}

func TestNoPlace(t *testing.T) {
	var at At
	if errors.As(In{Kind: "grammar", Cause: Long}, &at) {
		t.Errorf("a place where there is none: %v", at)
	}
}
