package shift

import (
	"strings"
	"sync"
	"testing"
)

// checkBuilt asks of a grammar at which there is a table that it is built, and that it is one.
func checkBuilt(t *testing.T, grammar string) string {
	t.Helper()
	table, err, at := Build(grammar)
	if err != OK || at != 0 {
		t.Errorf("P7: Build(%q) = %d %d, want a table", grammar, err, at)
		return ""
	}
	if err, at := Valid(grammar, table); err != OK {
		t.Errorf("P7: Build(%q) = %.200q, at which Valid answers %d %d", grammar, table, err, at)
	}
	if err, at := validByDefinition(grammar, table); err != OK {
		t.Errorf("P7: Build(%q) = %.200q, of which the definition tells %d %d", grammar, table, err, at)
	}
	return table
}

func checkNone(t *testing.T, grammar string) {
	t.Helper()
	if table, err, at := Build(grammar); table != "" || err != ErrNone || at != 0 {
		t.Errorf("P7: Build(%q) = %.200q %d %d, want ErrNone", grammar, table, err, at)
	}
}

func TestP7Tables(t *testing.T) {
	for _, grammar := range []string{
		"S=",
		"S=a",
		"S=abc",
		"Z=z",
		nest,
		"E=EpT;E=T;T=TmF;T=F;F=oEc;F=a",
		"S=Sa;S=",
		"S=aS;S=",
		"S=aS;S=b;S=c",
		"S=iSe;S=a",

		// rules of the empty right side
		"S=ABC;A=;B=;C=",
		"S=AB;A=a;A=;B=b;B=",
		"S=AAA;A=",
		"S=ATb;A=;A=a;T=;T=c",
		"S=AaA;A=",
		"S=AaB;A=;B=b;B=",
		"S=aAS;S=;A=",
		"S=T;T=U;U=",
		"S=SAa;S=;A=",

		// nothing leads to T: whatever is wrong with it, no state has its rules
		"S=a;T=TT;T=b",
		"S=a;T=T;T=",
		"S=a;T=SSS;T=",

		// one letter ahead is needed, and is enough
		"S=Aa;S=Bb;A=;B=",
		"S=aAd;S=bAe;A=c",
		"S=LeR;S=R;L=tR;L=i;R=L",
		"S=aAd;S=bBd;S=aBe;S=bAe;A=c;B=c", // A and B are told apart by the letter ahead of them
		"S=TbT;S=U;T=UaT;T=c;T=;U=c",
	} {
		checkBuilt(t, grammar)
	}
}

// TestP7SmallTables: a table has no state and no mark that it can do without.
func TestP7SmallTables(t *testing.T) {
	for grammar, want := range map[string]string{
		"S=":              "*0$,00$>S001;*1$>",
		"S=a":             oneTable,
		nest:              nestSmall,
		"S=a;T=SSS;T=":    oneTable,
		"S=AT;A=a;T=;T=c": "*0$,00$,10$c>A001S002a003;01$,20$,30$>T004c005;*1$>;11$c>;02$>;31$>",
		"S=Sa;S=":         "*0$,00$a,10$a>S001;*1$,01$a>a002;02$a>",
	} {
		if table := checkBuilt(t, grammar); table != want {
			t.Errorf("Build(%q) = %q, want %q", grammar, table, want)
		}
	}
}

func TestP7NoneAsAWordHasMoreTrees(t *testing.T) {
	for _, c := range []struct{ grammar, word string }{
		{"S=SS;S=a", "aaa"},
		{"S=SSS;S=", ""},
		{"S=a;S=a", "a"},
		{"S=;S=", ""},
		{"S=S;S=a", "a"},
		{"S=A;A=S;A=a", "a"},
		{"S=A;S=B;A=a;B=a", "a"},
		{"S=AA;A=a;A=", "a"},
		{"S=AS;S=b;A=;A=", "b"},
		{"S=iS;S=iSe;S=a", "iiae"},
		{"S=iT;T=S;T=SeS;S=a", "iiaea"},
		{"E=EpE;E=a", "apapa"},
		{"S=aT;S=Ub;T=b;U=a", "ab"},
		{"S=aTz;T=UU;U=UU;U=b", "abbbz"},
	} {
		checkNone(t, c.grammar)
		if count, _, _, _ := Trees(c.grammar, c.word); count != 2 {
			t.Errorf("%q: %d trees of %q", c.grammar, count, c.word)
		}
	}
}

func TestP7NoneThoughNoWordHasMoreTrees(t *testing.T) {
	for _, c := range []struct{ grammar, letters string }{
		{"S=aSa;S=", "a"},
		{"S=aSa;S=bSb;S=a", "ab"},
		{"S=ASx;S=y;A=", "xy"},
		{"S=Tab;S=Uac;T=;U=", "abc"}, // two letters ahead would be enough
		{"S=Tab;S=Uac;T=x;U=x", "abcx"},
		{"S=Ta;S=U;T=b;U=bac", "abc"},
		{"S=Ta;S=aU;T=;U=b", "ab"},
		{"S=aSb;S=aSc;S=Ta;T=", "abc"},
		{"S=aT;T=Ub;T=Vba;U=;V=", "ab"},
	} {
		checkNone(t, c.grammar)
		for _, word := range wordsOf(c.letters, 6) {
			if count, _, _, _ := Trees(c.grammar, word); count > 1 {
				t.Errorf("%q: more than one tree of %q", c.grammar, word)
			}
		}
	}
}

// wordsOf are all words of some letters, up to a length.
func wordsOf(letters string, size int) []string {
	all := []string{""}
	for from := 0; len(all[from]) < size; from++ {
		for i := range len(letters) {
			all = append(all, all[from]+letters[i:i+1])
		}
	}
	return all
}

func TestP7ErrorsOfCheck(t *testing.T) {
	for _, c := range []struct {
		grammar string
		err     Errno
		at      int
	}{
		{"", ErrText, 0},
		{"S", ErrText, 1},
		{"S=a;", ErrText, 4},
		{"S=abcd", ErrText, 5},
		{strings.Repeat("S=a;", 13), ErrLong, 0},
		{"S=A", ErrName, 2},
		{"S=a;S=bA", ErrName, 7},
		{"S=S", ErrBarren, 0},
		{"S=a;T=TT", ErrBarren, 4},

		// ahead of ErrNone
		{"S=SS;S=a;", ErrText, 9},
		{"S=SS;S=a;T=U", ErrName, 11},
		{"S=SS;S=a;T=T", ErrBarren, 9},
		{"S=SS;S=a;S=b;S=c;S=d;S=e;S=f;S=g;S=h;S=i;S=j;S=klm", ErrText, 32},
		{"S=SS;S=a;S=b;S=c;S=d;S=e;S=f;S=g;S=h;S=i;S=j;S=klmn", ErrLong, 0},
	} {
		if table, err, at := Build(c.grammar); table != "" || err != c.err || at != c.at {
			t.Errorf("P7: Build(%q) = %.80q %d %d, want %d %d", c.grammar, table, err, at, c.err, c.at)
		}
	}
}

// TestP7BothWaysAtManyGrammars holds Build against the table that has just what each way from state 0 asks for, and so a clash only if every table has one.
func TestP7BothWaysAtManyGrammars(t *testing.T) {
	t.Parallel()
	built, none, apart := 0, 0, 0
	for _, kind := range []struct {
		count, rules int
		signs        string
	}{{1500, 5, "STUab"}, {300, 8, "STUabc"}, {700, 6, "STUabcde"}, {300, 7, "STUVWXYZab"}} {
		for _, grammar := range someGrammars(kind.count, kind.rules, kind.signs) {
			states := plainTable(grammar, 300)
			if states == nil {
				continue
			}
			full, merged := writePlainTable(states), writePlainTable(mergeAlike(states))
			if err, _ := validByDefinition(grammar, full); err != OK {
				checkNone(t, grammar)
				none++
				continue
			}
			table := checkBuilt(t, grammar)
			built++
			if len(table) > len(full) {
				t.Errorf("Build(%q): %d bytes, but one of %d is there", grammar, len(table), len(full))
			}
			if err, _ := validByDefinition(grammar, merged); err != OK {
				apart++
			} else if len(table) != len(merged) {
				t.Errorf("Build(%q): %d bytes, but one of %d is there", grammar, len(table), len(merged))
			}
		}
	}
	if built < 500 || none < 500 {
		t.Errorf("too few to tell: %d built, %d none, %d apart", built, none, apart)
	}
}

// apart are grammars at which not all states of the same rules and places can be one.
func apart() []string {
	return []string{
		"S=aTd;S=bUd;S=aUe;S=bTe;T=c;U=c",
		"S=UbU;S=VU;U=Tef;T=c;U=c;S=TU;V=fS;U=ggU",
		"S=cTa;T=UUT;T=;U=b;T=b;S=T;T=cUT;T=UcT",
		"S=UT;U=bST;U=Ta;U=c;T=c;S=UUb;T=Ta;S=aU",
		"S=abV;S=UU;T=cVS;U=b;S=VaV;V=UTV;V=b",
		"S=aTb;T=UaT;S=aU;S=bbT;T=c;U=c;T=bbT;S=bTT",
		"S=T;U=bU;U=TTU;T=bbc;S=UaU;U=c;U=aU",
		"S=;S=TbT;T=bb;U=bb;T=UaT;S=U;T=aT",
		"S=bSb;S=aTb;T=cbc;T=bSb;T=aSc;T=aTb;T=bTc;S=cbc",
		"S=edd;T=fSa;T=dSb;S=fS;T=dTS;S=dTT;S=dSb;T=cS",
	}
}

func TestP7StatesThatMustBeApart(t *testing.T) {
	for _, grammar := range apart() {
		states := plainTable(grammar, 999)
		if err, _ := validByDefinition(grammar, writePlainTable(mergeAlike(states))); err != ErrClash {
			t.Errorf("%q: all states can be one: %d", grammar, err)
		}
		table := checkBuilt(t, grammar)
		if count := strings.Count(table, ";") + 1; count > len(states) {
			t.Errorf("Build(%q): %d states, but %d will do", grammar, count, len(states))
		}
		for number, state := range readPlainTable(table) {
			checkNothingTooMuch(t, grammar, table, number, state)
		}
	}
}

// checkNothingTooMuch asks that no mark of a state can be left out.
func checkNothingTooMuch(t *testing.T, grammar, table string, number int, state plainState) {
	t.Helper()
	for item, marks := range state.items {
		for _, mark := range strings.Split(marks, "") {
			states := readPlainTable(table)
			states[number].items[item] = strings.ReplaceAll(marks, mark, "")
			if len(marks) == 1 {
				delete(states[number].items, item)
			}
			if err, _ := validByDefinition(grammar, writePlainTable(states)); err == OK {
				t.Errorf("Build(%q): state %d of %q need not have %s with %s", grammar, number, table, item, mark)
			}
		}
	}
}

// great are grammars whose full tables, of just what each way asks for, have more than MaxStates states.
func great() []string {
	return []string{
		"S=ccU;U=SST;U=aa;T=cT;T=SSU;T=bSa;U=cST;S=cSU",
		"S=cU;U=SST;U=bac;T=cT;T=SSU;T=fcg;U=cST;S=SSg",
	}
}

func TestP7TheGreatestGrammars(t *testing.T) {
	t.Parallel()
	for _, grammar := range great() {
		if states := plainTable(grammar, 999); states != nil {
			t.Errorf("%q: no more than %d states", grammar, len(states))
		}
		checkBuilt(t, grammar)
	}
	for _, grammar := range []string{
		"S=abc;S=dbc;S=ebc;S=fbc;S=gbc;S=hbc;S=ibc;S=jbc",
		"S=aSb;S=cSd;S=eSf;S=gSh;S=iSj;S=kSl;S=mSn;S=opq",
		"A=aBc;B=dCe;C=fDg;D=hEi;E=jFk;F=lGm;G=nHo;H=pqr",
		"A=BCD;B=CDE;C=DEF;D=EFG;E=FGH;F=GHa;G=Hbc;H=def",
		"A=aBA;A=bcd;B=eCB;B=fgh;C=iDC;C=jkl;D=mAD;D=nop",
		"S=VbT;V=VVT;U=bbT;V=bbU;T=aa;T=bbS;S=bVU;T=baT",
		"S=TUe;V=aUd;T=bbV;V=bbU;T=aac;U=bbS;S=bTT;U=abV",
	} {
		if len(grammar) < 46 {
			t.Errorf("%q is none of the greatest", grammar)
		}
		checkBuilt(t, grammar)
	}
	checkNone(t, "S=SSS;S=aaa;S=bbb;S=ccc;S=ddd;S=eee;S=fff;S=ggg")
	checkNone(t, "A=BCD;A=BBB;B=CDA;B=aaa;C=DAB;C=aab;D=ABC;D=aba")
}

func TestP7TheSameAgainAndAgain(t *testing.T) {
	grammars := append(apart(), append(great(), nest, "S=SS;S=a", "S=A", "S=AB;A=a;A=;B=b;B=")...)
	type answer struct {
		table string
		err   Errno
		at    int
	}
	ask := func(grammar string) (a answer) {
		a.table, a.err, a.at = Build(grammar)
		return a
	}
	first := map[string]answer{}
	for _, grammar := range grammars {
		first[grammar] = ask(grammar)
	}
	var group sync.WaitGroup
	for worker := range 4 {
		group.Go(func() {
			for step := range 20 * len(grammars) {
				grammar := grammars[(step*3+worker)%len(grammars)]
				if got := ask(grammar); got != first[grammar] {
					t.Errorf("P2, P7: Build(%q) = %.80q %d %d, but first %.80q", grammar, got.table, got.err, got.at, first[grammar].table)
				}
			}
		})
	}
	group.Wait()
}
