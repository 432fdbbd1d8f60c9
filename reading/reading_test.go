package reading

import (
	"errors"
	"slices"
	"strings"
	"testing"

	"shift/fault"
)

func TestCoreTakesAndRuns(t *testing.T) {
	c := core{kind: "text", text: "ab;"}
	if c.take(only('b')) || c.at != 0 {
		t.Error("took a byte that does not fit")
	}
	if got := c.run(1, IsLetter); got != "a" {
		t.Errorf("run(1) = %q", got)
	}
	if got := c.run(5, IsLetter); got != "b" {
		t.Errorf("run(5) = %q", got)
	}
	if c.ended() || !c.take(only(';')) || !c.ended() || c.take(only(';')) {
		t.Error("the end is not where it should be")
	}
}

func TestCoreWithin(t *testing.T) {
	c := core{kind: "text", text: "abc"}
	if err := c.within(3); err != nil {
		t.Errorf("within(3): %v", err)
	}
	if err := c.within(2); !errors.Is(err, fault.Long) {
		t.Errorf("within(2): %v", err)
	}
}

func TestCoreIsEmbedded(t *testing.T) {
	g := grammarReader{core{text: "a"}}
	w := wordReader{core{text: "a"}}
	b := tableReader{core{text: "a"}}
	if !g.take(IsLetter) || !w.take(IsLetter) || !b.take(IsLetter) || !g.ended() || !w.ended() || !b.ended() {
		t.Error("the readers do not read by their core")
	}
}

func TestKinds(t *testing.T) {
	for b := range 256 {
		name, letter := strings.IndexByte("ABCDEFGHIJKLMNOPQRSTUVWXYZ", byte(b)) >= 0, strings.IndexByte("abcdefghijklmnopqrstuvwxyz", byte(b)) >= 0
		if IsName(byte(b)) != name || IsLetter(byte(b)) != letter || isSign(byte(b)) != (name || letter) {
			t.Errorf("byte %d is taken for what it is not", b)
		}
	}
}

func TestReadGrammar(t *testing.T) {
	g, err := ReadGrammar("S=aTb;T=;S=c")
	if err != nil {
		t.Fatal(err)
	}
	want := []Rule{{'S', "aTb", 0}, {'T', "", 6}, {'S', "c", 9}}
	if len(g.Rules) != len(want) {
		t.Fatalf("rules: %v", g.Rules)
	}
	for i, rule := range want {
		if g.Rules[i] != rule {
			t.Errorf("rule %d: %v, want %v", i, g.Rules[i], rule)
		}
	}
	if g.Start() != 'S' || g.Names() != 2 || g.Number('S') != 0 || g.Number('T') != 1 {
		t.Errorf("names: %c %v", g.Start(), g.numbers)
	}
}

func TestReadGrammarRefuses(t *testing.T) {
	for _, c := range []struct {
		text   string
		reason error
		place  int
		placed bool
	}{
		{strings.Repeat("S", MaxGrammar+1), fault.Long, 0, false},
		{strings.Repeat("S", MaxGrammar), fault.Text, 1, true},
		{"", fault.Text, 0, true},
		{"S=a;T", fault.Text, 5, true},
		{"S=aU", fault.Name, 3, true},
		{"S=a;T=bT", fault.Barren, 4, true},
	} {
		g, err := ReadGrammar(c.text)
		checkFault(t, c.text, "grammar", err, c.reason, c.place, c.placed)
		if g != nil {
			t.Errorf("%q: a grammar beside an error", c.text)
		}
	}
}

func TestReadWord(t *testing.T) {
	for _, text := range []string{"", "a", "xyz", strings.Repeat("z", MaxWord)} {
		if word, err := ReadWord(text); word != text || err != nil {
			t.Errorf("ReadWord(%q) = %q, %v", text, word, err)
		}
	}
	for _, c := range []struct {
		text   string
		reason error
		place  int
		placed bool
	}{
		{strings.Repeat("a", MaxWord+1), fault.Long, 0, false},
		{strings.Repeat("-", MaxWord+1), fault.Long, 0, false},
		{"A", fault.Letter, 0, true},
		{"ab`{", fault.Letter, 2, true},
		{strings.Repeat("a", MaxWord-1) + "\x00", fault.Letter, MaxWord - 1, true},
	} {
		word, err := ReadWord(c.text)
		checkFault(t, c.text, "word", err, c.reason, c.place, c.placed)
		if word != "" {
			t.Errorf("%q: a word beside an error", c.text)
		}
	}
}

func TestMarks(t *testing.T) {
	end, a, z := MarkOf(End), MarkOf('a'), MarkOf('z')
	if end == 0 || end >= a || a >= MarkOf('b') || MarkOf('y') >= z {
		t.Error("a mark that is above another has no higher bit")
	}
	for _, b := range []byte{'A', 'Z', '0', '*', '#', '%', '`', '{', 0, 255} {
		if MarkOf(b) != 0 {
			t.Errorf("%q is no mark", b)
		}
	}
	set := end | z
	if !set.Holds(end) || !set.Holds(set) || !set.Holds(0) || set.Holds(end|a) || !set.Meets(end|a) || set.Meets(a) || set.Meets(0) {
		t.Error("a set does not know its marks")
	}
}

func TestRisingMarks(t *testing.T) {
	for _, c := range []struct {
		text string
		set  Marks
		ok   bool
	}{
		{"$", 1, true}, {"a", 2, true}, {"$ab", 7, true}, {"$abcdefghijklmnopqrstuvwxyz", 1<<27 - 1, true},
		{"", 0, false}, {"$$", 0, false}, {"a$", 0, false}, {"ba", 0, false}, {"abb", 0, false}, {"acb", 0, false},
	} {
		if set, ok := risingMarks(c.text); set != c.set || ok != c.ok {
			t.Errorf("risingMarks(%q) = %d %v, want %d %v", c.text, set, ok, c.set, c.ok)
		}
	}
}

func TestReadTable(t *testing.T) {
	table, err := ReadTable("*0$,00$b>S001z998;97abz>")
	if err != nil {
		t.Fatal(err)
	}
	want := []State{
		{[]Item{{Star, 0, MarkOf('$')}, {0, 0, MarkOf('$') | MarkOf('b')}}, []Edge{{'S', 1}, {'z', 998}}},
		{[]Item{{9, 7, MarkOf('a') | MarkOf('b') | MarkOf('z')}}, nil},
	}
	if len(table.States) != len(want) {
		t.Fatalf("states: %v", table.States)
	}
	for number, state := range table.States {
		if !slices.Equal(state.Items, want[number].Items) || !slices.Equal(state.Edges, want[number].Edges) {
			t.Errorf("state %d: %v, want %v", number, state, want[number])
		}
	}
}

func TestStateFinds(t *testing.T) {
	s := State{[]Item{{Star, 0, 1}, {0, 1, 2}, {1, 0, 4}}, []Edge{{'S', 1}, {'a', 2}}}
	for _, item := range s.Items {
		if found, ok := s.Item(item.Rule, item.Place); !ok || found != item {
			t.Errorf("%v: found %v %v", item, found, ok)
		}
	}
	for _, edge := range s.Edges {
		if found, ok := s.Edge(edge.Sign); !ok || found != edge {
			t.Errorf("%v: found %v %v", edge, found, ok)
		}
	}
	if _, ok := s.Item(0, 0); ok {
		t.Error("found an item that is not there")
	}
	if _, ok := s.Edge('b'); ok {
		t.Error("found an edge that is not there")
	}
}

func TestReadTableRefuses(t *testing.T) {
	good := strings.Repeat("*0$>;", MaxStates-1) + "*0$>"
	if table, err := ReadTable(good); err != nil || len(table.States) != MaxStates {
		t.Errorf("%d states are too many: %v", MaxStates, err)
	}
	for _, c := range []struct {
		text   string
		reason error
		place  int
		placed bool
	}{
		{strings.Repeat("x", MaxTable+1), fault.Long, 0, false},
		{strings.Repeat("x", MaxTable), fault.Table, 0, true},
		{"", fault.Table, 0, true},
		{"*0$", fault.Table, 0, true},
		{"*0$>;", fault.Table, 1, true},
		{"*0$>;*0$>;00$,00$>;x", fault.Table, 2, true},
		{good + ";*0$>", fault.Table, MaxStates, true},
		{good + "x", fault.Table, MaxStates - 1, true},
	} {
		table, err := ReadTable(c.text)
		checkFault(t, c.text, "table", err, c.reason, c.place, c.placed)
		if table != nil {
			t.Errorf("%q: a table beside an error", c.text)
		}
	}
}

func checkFault(t *testing.T, text, kind string, err, reason error, place int, placed bool) {
	t.Helper()
	var in fault.In
	if !errors.Is(err, reason) || !errors.As(err, &in) || in.Kind != kind {
		t.Errorf("%q: %v, want %s: %v", text, err, kind, reason)
	}
	var at fault.At
	if errors.As(err, &at) != placed || at.Place != place {
		t.Errorf("%q: %v, want place %d", text, err, place)
	}
}

func TestTextOfATable(t *testing.T) {
	for _, text := range []string{
		"*0$>",
		"*0$,00$>S001a002;*1$>;01$>",
		"*0$abz,*9z,00$,73b,91abcdefghijklmnopqrstuvwxyz>A000Z999a010z123;88$>",
	} {
		table, err := ReadTable(text)
		if err != nil {
			t.Fatal(err)
		}
		if got := table.Text(); got != text {
			t.Errorf("%q is written as %q", text, got)
		}
	}
}

func TestNumbersOfMarks(t *testing.T) {
	set := MarkOf('z') | MarkOf(End) | MarkOf('b')
	if got := slices.Collect(set.Numbers()); !slices.Equal(got, []int{0, 2, 26}) {
		t.Errorf("numbers %v", got)
	}
	for number := range set.Numbers() {
		if number != 0 {
			t.Errorf("%d is the lowest", number)
		}
		break
	}
	if got := slices.Collect(Marks(0).Numbers()); len(got) != 0 {
		t.Errorf("no marks have the numbers %v", got)
	}
	if got := slices.Collect(AllMarks.Numbers()); len(got) != MaxMarks || got[MaxMarks-1] != 26 {
		t.Errorf("all marks have the numbers %v", got)
	}
}
