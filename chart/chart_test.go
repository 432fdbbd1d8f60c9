package chart

import (
	"strings"
	"testing"

	"shift/reading"
)

func chartOf(t *testing.T, grammar, word string) *Chart {
	t.Helper()
	g, err := reading.ReadGrammar(grammar)
	if err != nil {
		t.Fatal(err)
	}
	return New(g, word)
}

func TestPieces(t *testing.T) {
	c := chartOf(t, "S=TS;S=;T=ab", "abab")
	for _, p := range []struct {
		sign     byte
		from, to int
		want     int
	}{
		{'S', 0, 4, 1}, {'S', 0, 2, 1}, {'S', 2, 4, 1}, {'S', 1, 1, 1}, {'S', 0, 3, 0},
		{'T', 0, 2, 1}, {'T', 0, 0, 0}, {'T', 1, 3, 0},
		{'a', 0, 1, 1}, {'a', 1, 2, 0}, {'a', 0, 0, 0}, {'a', 0, 2, 0},
	} {
		if got := c.sign(p.sign, p.from, p.to); got != p.want {
			t.Errorf("%c from %d to %d: %d, want %d", p.sign, p.from, p.to, got, p.want)
		}
	}
}

func TestRowsAreCountedByCutsAndTrees(t *testing.T) {
	c := chartOf(t, "S=SS;S=a;S=b;T=c;T=c", "abca")
	for _, p := range []struct {
		signs    string
		from, to int
		want     int
	}{
		{"", 0, 0, 1}, {"", 0, 1, 0}, {"ab", 0, 2, 1}, {"aSc", 0, 3, 1}, {"T", 2, 3, 2}, {"TS", 2, 4, 2}, {"ST", 1, 3, 2}, {"SS", 0, 3, 0}, {"SST", 0, 3, 2},
	} {
		if got := c.rows(p.signs, p.from, p.to); got != p.want {
			t.Errorf("%q from %d to %d: %d, want %d", p.signs, p.from, p.to, got, p.want)
		}
	}
}

func TestDeepTree(t *testing.T) {
	count, text := chartOf(t, "S=AAA;A=BBB;B=CCC;C=DDD;D=EEE;E=FFF;F=GGG;G=", "").Trees()
	if count != 1 || len(text) != 3280 || !strings.HasPrefix(text, "012345677767776777") {
		t.Errorf("count %d, %d bytes", count, len(text))
	}
}

func TestBegins(t *testing.T) {
	c := chartOf(t, "S=aSb;S=", "aabbb")
	for size, want := range []bool{1: true, 2: true, 3: true, 4: true, 5: false} {
		if size > 0 && c.begins(size) != want {
			t.Errorf("begins(%d) = %v", size, !want)
		}
	}
}
