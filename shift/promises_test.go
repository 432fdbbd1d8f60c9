package shift

import (
	"strings"
	"sync"
	"testing"
)

// wild are texts that no call may stumble over.
func wild() []string {
	texts := []string{
		"", ";", "=", "$", "*", "S", "S=", "S=a", "S=aSb;S=", "S=S", "S=A", "s=a", "S=SS;S=;S=a", "S=A;A=S;A=a", "S=abcd", "S=a;", "S=\x00", "S=é", "\xff\xfe", "日本", "S =a", "S=a\n",
		"a", "ab", "aabb", "A", "a b", "a\x00", "aé", "*0$>S001;*1$>",
		"S=a;S=b;S=c;S=d;S=e;S=f;S=g;S=h", "S=a;S=b;S=c;S=d;S=e;S=f;S=g;S=h;S=i",
	}
	for _, piece := range []string{"a", "S", "S=a;", ";", "\x00", "\xff", "*0$>;"} {
		for _, size := range []int{23, 24, 25, 49, 50, 51, 199999, 200000, 200001, 1 << 22} {
			texts = append(texts, strings.Repeat(piece, size/len(piece)+1)[:size])
		}
	}
	return texts
}

func TestP1NoCallPanicsAndErrorsStandAlone(t *testing.T) {
	texts := wild()
	for _, g := range texts {
		err, at := Check(g)
		checkPlace(t, "Check", g, err, at)
		for _, w := range texts {
			count, text, err, at := Trees(g, w)
			checkPlace(t, "Trees", g, err, at)
			if err != OK && (count != 0 || text != "") {
				t.Errorf("P1: Trees(%.60q, %.60q): %d %q beside error %d", g, w, count, text, err)
			}
			size, err, at := Prefix(g, w)
			checkPlace(t, "Prefix", g, err, at)
			if err != OK && size != 0 {
				t.Errorf("P1: Prefix(%.60q, %.60q): %d beside error %d", g, w, size, err)
			}
			err, at = Valid(g, w)
			checkPlace(t, "Valid", g, err, at)
			text, err, at = Parse(g, w, g)
			checkPlace(t, "Parse", g, err, at)
			if err != OK && text != "" {
				t.Errorf("P1: Parse(%.60q, %.60q): %q beside error %d", g, w, text, err)
			}
		}
		text, err, at := Parse(nest, nestSmall, g)
		checkPlace(t, "Parse", g, err, at)
		if err != OK && text != "" {
			t.Errorf("P1: Parse of %.60q: %q beside error %d", g, text, err)
		}
		text, err, at = Build(g)
		checkPlace(t, "Build", g, err, at)
		if err != OK && text != "" {
			t.Errorf("P1: Build(%.60q): %q beside error %d", g, text, err)
		}
	}
}

func checkPlace(t *testing.T, call, grammar string, err Errno, at int) {
	t.Helper()
	if err < OK || err > ErrReject {
		t.Errorf("P1: %s(%.60q): error %d has no name", call, grammar, err)
	}
	if at < 0 || at != 0 && (err == OK || err == ErrLong || err == ErrNone) {
		t.Errorf("P1: %s(%.60q): place %d beside error %d", call, grammar, at, err)
	}
}

func TestP1EveryByteAtEveryPlace(t *testing.T) {
	const good = "S=aTb;T=;T=cS"
	for i := range len(good) {
		for b := range 256 {
			text := good[:i] + string([]byte{byte(b)}) + good[i+1:]
			err, at := Check(text)
			wantErr, wantAt := checkByDefinition(text)
			if err != wantErr || at != wantAt {
				t.Errorf("P1, P3: Check(%q) = %d %d, want %d %d", text, err, at, wantErr, wantAt)
			}
		}
	}
}

func TestP2AnswersDependOnArgumentsAlone(t *testing.T) {
	type question struct{ grammar, word string }
	type answer struct {
		check, trees, prefix, valid, build, parse Errno
		places                                    [6]int
		count, size                               int
		text, table, tree                         string
	}
	ask := func(q question) (a answer) {
		a.check, a.places[0] = Check(q.grammar)
		a.count, a.text, a.trees, a.places[1] = Trees(q.grammar, q.word)
		a.size, a.prefix, a.places[2] = Prefix(q.grammar, q.word)
		a.valid, a.places[3] = Valid(q.grammar, q.word)
		a.table, a.build, a.places[4] = Build(q.grammar)
		a.tree, a.parse, a.places[5] = Parse(q.grammar, a.table, q.word)
		return a
	}
	var questions []question
	for _, g := range []string{"S=aSb;S=", "E=EpT;E=T;T=TmF;T=F;F=oEc;F=a", "S=SS;S=a", "S=ABC;A=;B=;C=c", "S=A", "S=S", "S"} {
		for _, w := range []string{"", "aabb", "apama", "a", "aaa", "c", "1", strings.Repeat("a", 25), nestSmall, nestTable, oneTable} {
			questions = append(questions, question{g, w})
		}
	}
	first := make([]answer, len(questions))
	for i, q := range questions {
		first[i] = ask(q)
	}
	var group sync.WaitGroup
	for worker := range 8 {
		group.Go(func() {
			for step := range questions {
				i := (step*5 + worker*7) % len(questions)
				if got := ask(questions[i]); got != first[i] {
					t.Errorf("P2: %q: %v, but first %v", questions[i], got, first[i])
				}
			}
		})
	}
	group.Wait()
}

func TestP3Check(t *testing.T) {
	longest := strings.Repeat("S=abc;", 7) + "S=abc" // 47 bytes: no grammar has more
	for _, c := range []struct {
		grammar string
		err     Errno
		at      int
	}{
		{"S=a", OK, 0},
		{"S=", OK, 0},
		{"S=;S=;S=", OK, 0},
		{"S=aTb;T=;T=S", OK, 0},
		{"Z=z", OK, 0},
		{"A=Za;Z=z", OK, 0},
		{"S=SS;S=a", OK, 0},
		{"S=a;T=b", OK, 0},

		// the bound of bytes; it comes first of all
		{longest, OK, 0},
		{longest + "aaa", ErrText, 47},
		{longest + ";S=", ErrText, 47},
		{longest + ";S=a", ErrLong, 0},
		{strings.Repeat("\xff", 50), ErrText, 0},
		{strings.Repeat("\xff", 51), ErrLong, 0},
		{"S=A;" + strings.Repeat("S=abc;", 6) + "S=a1", ErrText, 43},
		{"S=" + strings.Repeat("a", 48), ErrText, 5},
		{"S=" + strings.Repeat("a", 49), ErrLong, 0},

		// the bound of rules
		{strings.Repeat("S=;", 7) + "S=", OK, 0},
		{strings.Repeat("S=;", 8) + "S=", ErrText, 23},
		{strings.Repeat("S=;", 8), ErrText, 23},
		{strings.Repeat("S=;", 7), ErrText, 21},
		{strings.Repeat("S=;", 7) + "?", ErrText, 21},

		// the bound of right sides
		{"S=abc", OK, 0},
		{"S=abcd", ErrText, 5},
		{"S=SSSS;S=", ErrText, 5},
		{"S=;S=abcd", ErrText, 8},

		// what is no grammar, and where
		{"", ErrText, 0},
		{"a", ErrText, 0},
		{"=", ErrText, 0},
		{"1=a", ErrText, 0},
		{"*=a", ErrText, 0},
		{"S", ErrText, 1},
		{"SS", ErrText, 1},
		{"S;", ErrText, 1},
		{"S==", ErrText, 2},
		{"S=$", ErrText, 2},
		{"S=a=", ErrText, 3},
		{"S=@", ErrText, 2},
		{"S=[", ErrText, 2},
		{"S=`", ErrText, 2},
		{"S={", ErrText, 2},
		{"@=a", ErrText, 0},
		{"[=a", ErrText, 0},
		{"S=a;", ErrText, 4},
		{"S=a;T", ErrText, 5},
		{"S=a; T=b", ErrText, 4},
		{"S=a;;", ErrText, 4},
		{"S=a\n", ErrText, 3},
		{"S=é", ErrText, 2},
		{"S=a\x00", ErrText, 3},

		// names that no rule has; a text that is no grammar comes first
		{"S=A", ErrName, 2},
		{"S=aSA;S=B", ErrName, 4},
		{"S=a;T=bcU", ErrName, 8},
		{"S=A;", ErrText, 4},
		{"S=T;T=U;V=W", ErrName, 6},

		// names without trees; a name that no rule has comes first
		{"S=S", ErrBarren, 0},
		{"S=SA;A=a", ErrBarren, 0},
		{"S=a;A=A", ErrBarren, 4},
		{"S=a;A=B;B=A;B=aBb", ErrBarren, 4},
		{"S=a;S=A;A=A", ErrBarren, 8},
		{"S=S;T=U", ErrName, 6},
		{"S=A;A=B;B=C;C=D;D=", OK, 0},
		{"A=;B=C;C=B;B=a", OK, 0},
	} {
		if err, at := Check(c.grammar); err != c.err || at != c.at {
			t.Errorf("P3: Check(%q) = %d %d, want %d %d", c.grammar, err, at, c.err, c.at)
		}
	}
}

func TestP4Trees(t *testing.T) {
	a24 := strings.Repeat("a", 24)
	for _, c := range []struct {
		grammar, word string
		count         int
		text          string
		err           Errno
		at            int
	}{
		// no tree, one, more than one
		{"S=a", "", 0, "", OK, 0},
		{"S=a", "a", 1, "0", OK, 0},
		{"S=a", "aa", 0, "", OK, 0},
		{"S=a;S=a", "a", 2, "", OK, 0},
		{"S=", "", 1, "0", OK, 0},
		{"S=;S=", "", 2, "", OK, 0},
		{"S=T;S=U;T=a;U=a", "a", 2, "", OK, 0},
		{"S=TU;T=a;T=aa;U=a;U=aa", "aaa", 2, "", OK, 0},
		{"S=TU;T=a;T=aa;U=a;U=aa", "aa", 1, "013", OK, 0},
		{"S=TU;T=a;T=aa;U=a;U=aa", "aaaa", 1, "024", OK, 0},
		{"S=abc", "abc", 1, "0", OK, 0},
		{"S=ABC;A=a;B=b;C=c", "abc", 1, "0123", OK, 0},
		{"S=BbA;A=a;B=", "ba", 1, "021", OK, 0},

		// only trees of the start count
		{"S=b;T=a", "a", 0, "", OK, 0},
		{"S=b;T=a", "b", 1, "0", OK, 0},

		// rules that come back to themselves
		{"S=S;S=a", "a", 2, "", OK, 0},
		{"S=S;S=a", "b", 0, "", OK, 0},
		{"S=SS;S=", "", 2, "", OK, 0},
		{"S=aT;T=U;U=T;U=b;T=c", "ab", 2, "", OK, 0},
		{"S=a;S=bT;T=T;T=", "a", 1, "0", OK, 0},
		{"S=STT;S=;T=", "", 2, "", OK, 0},
		{"S=Sa;S=a", "aaa", 1, "001", OK, 0},

		// the bound of the word
		{"S=aS;S=", a24, 1, strings.Repeat("0", 24) + "1", OK, 0},
		{"S=Sa;S=", a24, 1, strings.Repeat("0", 24) + "1", OK, 0},
		{"S=SSS;S=;S=a", a24, 2, "", OK, 0},
		{"S=aS;S=", a24 + "a", 0, "", ErrLong, 0},
		{"S=aS;S=", strings.Repeat("A", 24), 0, "", ErrLetter, 0},
		{"S=aS;S=", strings.Repeat("A", 25), 0, "", ErrLong, 0},

		// what is no word, and where
		{"S=a", "A", 0, "", ErrLetter, 0},
		{"S=a", "ab`", 0, "", ErrLetter, 2},
		{"S=a", "zz{Z", 0, "", ErrLetter, 2},
		{"S=a", "a\x00", 0, "", ErrLetter, 1},
		{"S=a", "é", 0, "", ErrLetter, 0},
		{"S=a", a24[:23] + "$", 0, "", ErrLetter, 23},

		// what is wrong with the grammar comes first
		{"", a24 + "a", 0, "", ErrText, 0},
		{"S=a;", "1", 0, "", ErrText, 4},
		{"S=aA", "1", 0, "", ErrName, 3},
		{"S=a;A=A", a24 + "1", 0, "", ErrBarren, 4},
		{strings.Repeat("S", 51), "1", 0, "", ErrLong, 0},
	} {
		count, text, err, at := Trees(c.grammar, c.word)
		if count != c.count || text != c.text || err != c.err || at != c.at {
			t.Errorf("P4: Trees(%q, %q) = %d %q %d %d, want %d %q %d %d", c.grammar, c.word, count, text, err, at, c.count, c.text, c.err, c.at)
		}
	}
}

func TestP5Prefix(t *testing.T) {
	a24 := strings.Repeat("a", 24)
	for _, c := range []struct {
		grammar, word string
		size          int
		err           Errno
		at            int
	}{
		{"S=abc", "", 0, OK, 0},
		{"S=abc", "a", 1, OK, 0},
		{"S=abc", "abc", 3, OK, 0},
		{"S=abc", "abcd", 3, OK, 0},
		{"S=abc", "abd", 2, OK, 0},
		{"S=abc", "b", 0, OK, 0},
		{"S=", "", 0, OK, 0},
		{"S=", "a", 0, OK, 0},
		{"S=aSb;S=c", "aac", 3, OK, 0},
		{"S=aSb;S=c", "aacbbb", 5, OK, 0},
		{"S=aSb;S=c", "aacc", 3, OK, 0},
		{"S=a;T=b", "b", 0, OK, 0},

		// recursion on the left, open or behind an empty word
		{"S=Sa;S=b", "baab", 3, OK, 0},
		{"S=TSa;S=b;T=", "baaa", 4, OK, 0},
		{"S=Tx;T=Sy;T=", "xyxyy", 4, OK, 0},

		// the beginning ends within a tree of a tree
		{"S=TU;T=ab;U=cde", "abcd", 4, OK, 0},
		{"S=TU;T=ab;T=abc;U=cd", "abccc", 4, OK, 0},
		{"S=aTc;T=UU;U=;U=b", "abbb", 3, OK, 0},
		{"S=aTc;T=UU;U=;U=b", "ac", 2, OK, 0},

		// the bound of the word
		{"S=aS;S=b", a24, 24, OK, 0},
		{"S=SSS;S=;S=a", a24[:23] + "b", 23, OK, 0},
		{"S=aS;S=b", a24 + "a", 0, ErrLong, 0},
		{"S=aS;S=b", a24 + "1", 0, ErrLong, 0},

		// what is no word, and where
		{"S=aS;S=b", "aa1", 0, ErrLetter, 2},
		{"S=a", "S", 0, ErrLetter, 0},

		// what is wrong with the grammar comes first
		{"S", "1", 0, ErrText, 1},
		{"S=A", a24 + "a", 0, ErrName, 2},
		{"S=S", "1", 0, ErrBarren, 0},
		{strings.Repeat("S", 51), "1", 0, ErrLong, 0},
	} {
		size, err, at := Prefix(c.grammar, c.word)
		if size != c.size || err != c.err || at != c.at {
			t.Errorf("P5: Prefix(%q, %q) = %d %d %d, want %d %d %d", c.grammar, c.word, size, err, at, c.size, c.err, c.at)
		}
	}
}

func TestErrnoNames(t *testing.T) {
	names := []Errno{OK, ErrLong, ErrText, ErrName, ErrBarren, ErrLetter, ErrTable, ErrItem, ErrStart, ErrClosed, ErrEdge, ErrReason, ErrClash, ErrNone, ErrReject}
	for want, got := range names {
		if int(got) != want {
			t.Errorf("error %d stands where %d should", got, want)
		}
	}
}
