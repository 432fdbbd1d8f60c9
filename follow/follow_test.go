package follow

import (
	"testing"

	"shift/reading"
)

func rulesOf(t *testing.T, grammar string) *Rules {
	t.Helper()
	g, err := reading.ReadGrammar(grammar)
	if err != nil {
		t.Fatal(err)
	}
	return New(g)
}

func marksOf(text string) reading.Marks {
	set := reading.Marks(0)
	for i := range len(text) {
		set |= reading.MarkOf(text[i])
	}
	return set
}

func TestRight(t *testing.T) {
	r := rulesOf(t, "S=aTb;T=")
	for rule, want := range map[int]string{reading.Star: "S", 0: "aTb", 1: ""} {
		if got := r.Right(rule); got != want {
			t.Errorf("rule %d: %q, want %q", rule, got, want)
		}
	}
}

func TestHave(t *testing.T) {
	r := rulesOf(t, "S=aTb;T=")
	for _, c := range []struct {
		rule, place int
		want        bool
	}{
		{reading.Star, 0, true}, {reading.Star, 1, true}, {reading.Star, 2, false},
		{0, 3, true}, {0, 4, false}, {1, 0, true}, {1, 1, false}, {2, 0, false}, {9, 0, false},
	} {
		if got := r.Have(reading.Item{Rule: c.rule, Place: c.place, Marks: 1}); got != c.want {
			t.Errorf("rule %d, place %d: %v", c.rule, c.place, got)
		}
	}
}

func TestWantAndFollow(t *testing.T) {
	for _, c := range []struct {
		grammar     string
		rule, place int
		want        byte // 0 for none
		follow      string
	}{
		{"S=a", reading.Star, 0, 'S', "$q"},
		{"S=a", reading.Star, 1, 0, ""},
		{"S=abc", 0, 0, 'a', "b"},
		{"S=abc", 0, 2, 'c', "$q"},
		{"S=abc", 0, 3, 0, ""},
		{"S=", 0, 0, 0, ""},
		{"S=ATb;A=;A=a;T=;T=c", 0, 0, 'A', "bc"},
		{"S=ATb;A=;A=a;T=;T=c", 0, 1, 'T', "b"},
		{"S=AT;A=a;T=;T=c", 0, 0, 'A', "$cq"},

		// through rules that come back to themselves, on the left or by one another
		{"S=aT;T=Tb;T=c", 0, 0, 'a', "c"},
		{"S=aT;T=Tb;T=", 0, 0, 'a', "$bq"},
		{"S=aT;T=Ux;U=T;U=y;U=", 0, 0, 'a', "xy"},
		{"S=aTU;T=V;V=;U=V;U=VVz", 0, 0, 'a', "$qz"},
	} {
		r := rulesOf(t, c.grammar)
		item := reading.Item{Rule: c.rule, Place: c.place, Marks: marksOf("$q")}
		want, ok := r.Want(item)
		if want != c.want || ok != (c.want != 0) {
			t.Errorf("%q: rule %d at %d wants %q %v, want %q", c.grammar, c.rule, c.place, want, ok, c.want)
		}
		if ok && r.Follow(item) != marksOf(c.follow) {
			t.Errorf("%q: rule %d at %d: %b follows, want %q", c.grammar, c.rule, c.place, r.Follow(item), c.follow)
		}
	}
}
