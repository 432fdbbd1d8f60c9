package reading

import (
	"errors"
	"strings"
	"testing"

	"shift/fault"
)

func TestCoreTakesAndRuns(t *testing.T) {
	c := core{kind: "text", text: "ab;"}
	if c.take(only('b')) || c.at != 0 {
		t.Error("took a byte that does not fit")
	}
	if got := c.run(1, IsLetter); got != "a" {
		t.Errorf("run(1) = %q", got)
	}
	if got := c.run(5, IsLetter); got != "b" {
		t.Errorf("run(5) = %q", got)
	}
	if c.ended() || !c.take(only(';')) || !c.ended() || c.take(only(';')) {
		t.Error("the end is not where it should be")
	}
}

func TestCoreWithin(t *testing.T) {
	c := core{kind: "text", text: "abc"}
	if err := c.within(3); err != nil {
		t.Errorf("within(3): %v", err)
	}
	if err := c.within(2); !errors.Is(err, fault.Long) {
		t.Errorf("within(2): %v", err)
	}
}

func TestCoreIsEmbedded(t *testing.T) {
	g := grammarReader{core{text: "a"}}
	w := wordReader{core{text: "a"}}
	if !g.take(IsLetter) || !w.take(IsLetter) || !g.ended() || !w.ended() {
		t.Error("the readers do not read by their core")
	}
}

func TestKinds(t *testing.T) {
	for b := range 256 {
		name, letter := strings.IndexByte("ABCDEFGHIJKLMNOPQRSTUVWXYZ", byte(b)) >= 0, strings.IndexByte("abcdefghijklmnopqrstuvwxyz", byte(b)) >= 0
		if IsName(byte(b)) != name || IsLetter(byte(b)) != letter || isSign(byte(b)) != (name || letter) {
			t.Errorf("byte %d is taken for what it is not", b)
		}
	}
}

func TestReadGrammar(t *testing.T) {
	g, err := ReadGrammar("S=aTb;T=;S=c")
	if err != nil {
		t.Fatal(err)
	}
	want := []Rule{{'S', "aTb", 0}, {'T', "", 6}, {'S', "c", 9}}
	if len(g.Rules) != len(want) {
		t.Fatalf("rules: %v", g.Rules)
	}
	for i, rule := range want {
		if g.Rules[i] != rule {
			t.Errorf("rule %d: %v, want %v", i, g.Rules[i], rule)
		}
	}
	if g.Start() != 'S' || g.Names() != 2 || g.Number('S') != 0 || g.Number('T') != 1 {
		t.Errorf("names: %c %v", g.Start(), g.numbers)
	}
}

func TestReadGrammarRefuses(t *testing.T) {
	for _, c := range []struct {
		text   string
		reason error
		place  int
		placed bool
	}{
		{strings.Repeat("S", MaxGrammar+1), fault.Long, 0, false},
		{strings.Repeat("S", MaxGrammar), fault.Text, 1, true},
		{"", fault.Text, 0, true},
		{"S=a;T", fault.Text, 5, true},
		{"S=aU", fault.Name, 3, true},
		{"S=a;T=bT", fault.Barren, 4, true},
	} {
		g, err := ReadGrammar(c.text)
		checkFault(t, c.text, "grammar", err, c.reason, c.place, c.placed)
		if g != nil {
			t.Errorf("%q: a grammar beside an error", c.text)
		}
	}
}

func TestReadWord(t *testing.T) {
	for _, text := range []string{"", "a", "xyz", strings.Repeat("z", MaxWord)} {
		if word, err := ReadWord(text); word != text || err != nil {
			t.Errorf("ReadWord(%q) = %q, %v", text, word, err)
		}
	}
	for _, c := range []struct {
		text   string
		reason error
		place  int
		placed bool
	}{
		{strings.Repeat("a", MaxWord+1), fault.Long, 0, false},
		{strings.Repeat("-", MaxWord+1), fault.Long, 0, false},
		{"A", fault.Letter, 0, true},
		{"ab`{", fault.Letter, 2, true},
		{strings.Repeat("a", MaxWord-1) + "\x00", fault.Letter, MaxWord - 1, true},
	} {
		word, err := ReadWord(c.text)
		checkFault(t, c.text, "word", err, c.reason, c.place, c.placed)
		if word != "" {
			t.Errorf("%q: a word beside an error", c.text)
		}
	}
}

func checkFault(t *testing.T, text, kind string, err, reason error, place int, placed bool) {
	t.Helper()
	var in fault.In
	if !errors.Is(err, reason) || !errors.As(err, &in) || in.Kind != kind {
		t.Errorf("%q: %v, want %s: %v", text, err, kind, reason)
	}
	var at fault.At
	if errors.As(err, &at) != placed || at.Place != place {
		t.Errorf("%q: %v, want place %d", text, err, place)
	}
}
