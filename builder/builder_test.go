package builder

import (
	"errors"
	"strings"
	"testing"

	"shift/fault"
	"shift/reading"
)

const (
	nest      = "S=aSb;S="
	nestTable = "*0$,00$,10$>S001a002;*1$>;00b,01$b,10b>S003a002;02$b>b004;03$b>"
	apart     = "S=aTd;S=bUd;S=aUe;S=bTe;T=c;U=c" // the states behind ac and bc must be two, though they differ by their marks alone
)

func read(t *testing.T, grammar string) *reading.Grammar {
	t.Helper()
	g, err := reading.ReadGrammar(grammar)
	if err != nil {
		t.Fatal(err)
	}
	return g
}

func marksIn(text string) reading.Marks {
	set := reading.Marks(0)
	for i := range len(text) {
		set |= reading.MarkOf(text[i])
	}
	return set
}

func TestBuild(t *testing.T) {
	if text, err := Build(read(t, nest)); text != nestTable || err != nil {
		t.Errorf("%q %v, want %q", text, err, nestTable)
	}
	text, err := Build(read(t, "S=SS;S=a"))
	var at fault.At
	if text != "" || !errors.Is(err, fault.None) || errors.As(err, &at) {
		t.Errorf("%q %v, want none, and no place", text, err)
	}
}

func TestBounds(t *testing.T) {
	for _, grammar := range []string{nest, apart, "S="} {
		text, ok := build(read(t, grammar), bounds{reading.MaxStates, reading.MaxTable})
		if !ok {
			t.Errorf("%q: none", grammar)
		}
		states := strings.Count(text, ";") + 1
		for _, c := range []struct {
			most bounds
			want bool
		}{
			{bounds{states, len(text)}, true},
			{bounds{states - 1, len(text)}, false},
			{bounds{states, len(text) - 1}, false},
			{bounds{1, len(text)}, false},
		} {
			if _, ok := build(read(t, grammar), c.most); ok != c.want {
				t.Errorf("%q: %v within %v, want %v", grammar, ok, c.most, c.want)
			}
		}
	}
}

func TestItemsRise(t *testing.T) {
	all := newItems(read(t, "S=aTb;T=;T=T"))
	var got []string
	for _, k := range all {
		item := reading.Table{States: []reading.State{{Items: []reading.Item{{Rule: k.rule, Place: k.place, Marks: 1}}}}}
		got = append(got, item.Text())
	}
	if want := "*0$> *1$> 00$> 01$> 02$> 03$> 10$> 20$> 21$>"; strings.Join(got, " ") != want {
		t.Errorf("%q, want %q", got, want)
	}
	for i, k := range all {
		if k.ended() != (i == 1 || i == 5 || i == 6 || i == 8) {
			t.Errorf("item %d: ended %v", i, k.ended())
		}
	}
}

func TestTheMostItems(t *testing.T) {
	all := newItems(read(t, strings.Repeat("S=abc;", 7)+"S=abc"))
	if len(all) != maxItems {
		t.Errorf("%d items, room for %d", len(all), maxItems)
	}
}

func TestFollow(t *testing.T) {
	all := newItems(read(t, "S=TTb;S=aT;T=;T=c"))
	for _, c := range []struct {
		item        int
		marks, want string
	}{
		{0, "$", "$"},
		{0, "$z", "$z"},
		{2, "$", "bc"},
		{3, "$z", "b"},
		{7, "$", "$"},
		{7, "cz", "cz"},
	} {
		if got := all[c.item].follow(marksIn(c.marks)); got != marksIn(c.want) {
			t.Errorf("item %d with %q: %b, want %q", c.item, c.marks, got, c.want)
		}
	}
}

func TestFoes(t *testing.T) {
	all := newItems(read(t, "S=aTd;S=bUd;S=aUe;S=bTe;T=c;U=c"))
	f := newFoes(all)
	const first, atT, atU, endT, endU = 2, 18, 20, 19, 21 // 00, 40, 50, 41, 51
	for _, c := range []struct {
		one        int
		mark       byte
		other      int
		foes, free string
	}{
		{endT, 'd', endU, "d", "$abce"}, // here
		{endU, 'e', endT, "e", "$abcd"},
		{endT, 'd', endT, "", "$abcde"}, // an item is no foe of itself
		{atT, 'd', atU, "d", "$abce"},   // behind the same sign
		{atT, 'a', endU, "c", "$abdez"}, // c is wanted, and a mark of the other
		{endU, 'c', atT, "$abcdez", ""},
		{first, '$', first, "", "$abcdez"},
		{first + 1, '$', atU, "d", "$abcez"}, // by what is opened, as d follows T
		{atU, 'd', first + 1, "$adz", ""},
		{atU, 'e', first + 1, "", "$adz"},
	} {
		number := 0
		for found := range reading.MarkOf(c.mark).Numbers() {
			number = found
		}
		got := f[c.one][number][c.other]
		if !got.Holds(marksIn(c.foes)) || got.Meets(marksIn(c.free)) {
			t.Errorf("item %d with %c: item %d is a foe with %b, want %q, not %q", c.one, c.mark, c.other, got, c.foes, c.free)
		}
	}
}

func TestFoesFromTheBeginning(t *testing.T) {
	for grammar, want := range map[string]bool{nest: false, apart: false, "S=SS;S=a": true, "S=aSa;S=": true, "S=a;T=TT;T=b": false} {
		all := newItems(read(t, grammar))
		if got := newFoes(all).between(all.begin(), all.begin()); got != want {
			t.Errorf("%q: %v, want %v", grammar, got, want)
		}
	}
}

// TestGrowStopsInTime: there may be far more cores than states are allowed.
func TestGrowStopsInTime(t *testing.T) {
	all := newItems(read(t, nest))
	f := newFoes(all)
	for most, want := range map[int]bool{1: false, 4: false, 5: true} {
		if _, ok := grow(all, f, most); ok != want {
			t.Errorf("%v within %d states, want %v", ok, most, want)
		}
	}
}

// TestSettled: grammars at which edges are drawn anew, and states are left behind.
func TestSettled(t *testing.T) {
	behind := 0
	for _, grammar := range []string{"S=UbU;S=VU;U=Tef;T=c;U=c;S=TU;V=fS;U=ggU", "S=UT;U=bST;U=Ta;U=c;T=c;S=UUb;T=Ta;S=aU", "S=;S=TbT;T=bb;U=bb;T=UaT;S=U;T=aT"} {
		all := newItems(read(t, grammar))
		grown, _ := grow(all, newFoes(all), reading.MaxStates)
		kept := settled(all, grown)
		for number := range grown {
			if kept[number].marking != grown[number].marking {
				behind++
			}
			for i, marks := range kept[number].marking {
				if !grown[number].marking[i].Holds(marks) {
					t.Errorf("%q: state %d has new marks", grammar, number)
				}
			}
		}
		for _, state := range written(all, kept) {
			if len(state.Items) == 0 {
				t.Errorf("%q: a state without items", grammar)
			}
		}
	}
	if behind == 0 {
		t.Error("nothing was left behind")
	}
}
