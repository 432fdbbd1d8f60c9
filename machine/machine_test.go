package machine

import (
	"errors"
	"testing"

	"shift/fault"
	"shift/reading"
)

func machineOf(t *testing.T, grammar, table string) *Machine {
	t.Helper()
	g, err := reading.ReadGrammar(grammar)
	if err != nil {
		t.Fatal(err)
	}
	b, err := reading.ReadTable(table)
	if err != nil {
		t.Fatal(err)
	}
	return New(g, b)
}

func TestRead(t *testing.T) {
	m := machineOf(t, "S=aSb;S=", "*0$,00$,10$>S001a002;*1$>;00b,01$b,10b>S003a002;02$b>b004;03$b>")
	for range 2 { // a machine keeps nothing of the words that it has read
		for word, want := range map[string]string{"": "1", "ab": "01", "aabb": "001"} {
			if text, err := m.Read(word); text != want || err != nil {
				t.Errorf("%q: %q %v, want %q", word, text, err, want)
			}
		}
		for word, want := range map[string]int{"b": 0, "a": 1, "abb": 2, "aabbz": 4} {
			text, err := m.Read(word)
			var in fault.In
			var at fault.At
			if text != "" || !errors.Is(err, fault.Reject) || !errors.As(err, &in) || in.Kind != "word" || !errors.As(err, &at) || at.Place != want {
				t.Errorf("%q: %q %v, want a reject at %d", word, text, err, want)
			}
		}
	}
}

func TestTreesStandInTheirOrder(t *testing.T) {
	m := machineOf(t, "S=TaU;T=;U=b;U=", "*0$,00$,10a>S001T002;*1$>;01$>a003;02$,20$,30$>U004b005;03$>;21$>")
	for word, want := range map[string]string{"a": "013", "ab": "012"} {
		if text, err := m.Read(word); text != want || err != nil {
			t.Errorf("%q: %q %v, want %q", word, text, err, want)
		}
	}
}

// TestMarksOfStar: `*` may have marks that nothing asks for, and there is no name to go along at them.
func TestMarksOfStar(t *testing.T) {
	m := machineOf(t, "S=a", "*0$az,00$az>S001a002;*1$az>;01$az>")
	for _, word := range []string{"aa", "az", "ab"} {
		_, err := m.Read(word)
		var at fault.At
		if !errors.Is(err, fault.Reject) || !errors.As(err, &at) || at.Place != 1 {
			t.Errorf("%q: %v", word, err)
		}
	}
	if text, err := m.Read("a"); text != "0" || err != nil {
		t.Errorf("%q %v", text, err)
	}
}

func TestEachStateActsAtEachMark(t *testing.T) {
	m := machineOf(t, "S=aSb;S=", "*0$,00$,10$>S001a002;*1$>;00b,01$b,10b>S003a002;02$b>b004;03$b>")
	for _, c := range []struct {
		state int
		mark  byte
		goes  bool
		size  int // of the path afterwards, from one of four states
	}{
		{0, 'a', true, 5},
		{0, '$', true, 5},
		{0, 'b', false, 4},
		{1, '$', false, 4},
		{1, 'a', false, 4},
		{2, 'a', true, 5},
		{2, 'b', true, 5},
		{2, '$', false, 4},
		{3, 'b', true, 5},
		{4, '$', true, 2},
		{4, 'b', true, 2},
		{4, 'a', false, 4},
	} {
		r := &run{machine: m, word: "aaaa", path: []step{{state: 0}, {state: 2}, {state: 3}, {state: c.state}}}
		if goes := m.states[c.state].act(c.mark)(r); goes != c.goes || len(r.path) != c.size {
			t.Errorf("state %d at %c: %v, %d states on the path, want %v, %d", c.state, c.mark, goes, len(r.path), c.goes, c.size)
		}
	}
}
