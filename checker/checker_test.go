package checker

import (
	"errors"
	"testing"

	"shift/fault"
	"shift/follow"
	"shift/reading"
)

func read(t *testing.T, grammar, table string) (*reading.Grammar, *reading.Table) {
	t.Helper()
	g, err := reading.ReadGrammar(grammar)
	if err != nil {
		t.Fatal(err)
	}
	b, err := reading.ReadTable(table)
	if err != nil {
		t.Fatal(err)
	}
	return g, b
}

func TestCheckTakes(t *testing.T) {
	if err := Check(read(t, "S=a", "*0$,00$>S001a002;*1$>;01$>")); err != nil {
		t.Error(err)
	}
}

func TestCheckWrapsWhatIsWrong(t *testing.T) {
	for _, c := range []struct {
		table  string
		reason error
		place  int
	}{
		{"*0$,00$>S001a002;*1$>;02$>", fault.Item, 2},
		{"*0$,00$>S001a003;*1$>;01$>", fault.Item, 0},
		{"*0a,00$>S001a002;*1$>;01$>", fault.Start, 0},
		{"*0$>S001;*1$>", fault.Closed, 0},
		{"*0$,00$>S001a002;*1$>;01$>a002", fault.Edge, 2},
		{"*0$,00$>S001a002;*1$>;01$>;00$>a002", fault.Reason, 3},
		{"*0$,00$>S001a002;*1$>;01$>;*1$,01$>", fault.Clash, 3},
	} {
		err := Check(read(t, "S=a", c.table))
		var in fault.In
		var at fault.At
		if !errors.Is(err, c.reason) || !errors.As(err, &in) || in.Kind != "table" || !errors.As(err, &at) || at.Place != c.place {
			t.Errorf("%q: %v, want table, %d, %v", c.table, err, c.place, c.reason)
		}
	}
}

func TestEachAnswersForTheLowest(t *testing.T) {
	g, table := read(t, "S=a", "*0$>;*0$>;*0$>;*0$>;*0$>;*0$>;*0$>;*0$>")
	c := &checker{grammar: g, rules: follow.New(g), states: table.States}
	first, second := errors.New("first"), errors.New("second")
	from := func(number int, reason error) func(view) error {
		return func(v view) error {
			if v.number >= number {
				return reason
			}
			return nil
		}
	}
	for range 200 {
		for _, k := range []struct {
			first, second int
			want          error
			at            int
		}{{3, 3, first, 3}, {5, 2, second, 2}, {2, 5, first, 2}, {8, 7, second, 7}, {0, 0, first, 0}, {8, 8, nil, 0}} {
			err := c.each([]func(view) error{from(k.first, first), from(k.second, second)})
			var at fault.At
			errors.As(err, &at)
			if !errors.Is(err, k.want) || at.Place != k.at {
				t.Fatalf("%v: answered %v", k, err)
			}
		}
	}
}
