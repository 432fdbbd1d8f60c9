package shift

import (
	"math/rand"
	"slices"
	"strings"
	"sync"
	"testing"
)

type parseCase struct {
	grammar, table, word string
	tree                 string
	err                  Errno
	at                   int
}

func checkParses(t *testing.T, cases []parseCase) {
	t.Helper()
	for _, c := range cases {
		if tree, err, at := Parse(c.grammar, c.table, c.word); tree != c.tree || err != c.err || at != c.at {
			t.Errorf("P8: Parse(%q, %.200q, %.60q) = %q %d %d, want %q %d %d", c.grammar, c.table, c.word, tree, err, at, c.tree, c.err, c.at)
		}
	}
}

// checkReading holds the reading of words by a table that Valid takes against what Trees and Prefix tell of them.
func checkReading(t *testing.T, grammar, table string, words []string) {
	t.Helper()
	for _, word := range words {
		count, tree, _, _ := Trees(grammar, word)
		want := parseCase{grammar, table, word, tree, OK, 0}
		if count == 0 {
			want.err = ErrReject
			want.at, _, _ = Prefix(grammar, word)
		}
		if count > 1 {
			t.Errorf("P8: Valid takes %q at %q, but %q has more than one tree", table, grammar, word)
		}
		checkParses(t, []parseCase{want})
	}
}

func TestP8Words(t *testing.T) {
	full := strings.Repeat("a", 12) + strings.Repeat("b", 12)
	for _, table := range []string{nestTable, nestSmall} {
		checkParses(t, []parseCase{
			{nest, table, "", "1", OK, 0},
			{nest, table, "ab", "01", OK, 0},
			{nest, table, "aabb", "001", OK, 0},
			{nest, table, full, strings.Repeat("0", 12) + "1", OK, 0},
			{nest, table, "b", "", ErrReject, 0},
			{nest, table, "z", "", ErrReject, 0},
			{nest, table, "a", "", ErrReject, 1},
			{nest, table, "az", "", ErrReject, 1},
			{nest, table, "abb", "", ErrReject, 2},
			{nest, table, "aba", "", ErrReject, 2},
			{nest, table, "aabbb", "", ErrReject, 4},
			{nest, table, "a" + full[:23], "", ErrReject, 24},
			{nest, table, full[:23] + "z", "", ErrReject, 23},
			{nest, table, full[:23], "", ErrReject, 23},
		})
	}
	checkParses(t, []parseCase{
		{"S=a", oneTable, "a", "0", OK, 0},
		{"S=a", oneTable, "", "", ErrReject, 0},
		{"S=a", oneTable, "aa", "", ErrReject, 1},
		{"S=", "*0$,00$>S001;*1$>", "", "0", OK, 0},
		{"S=", "*0$,00$>S001;*1$>", "a", "", ErrReject, 0},
		{"S=AB;A=;B=b;B=", "*0$,00$,10$b>A001S002;01$,20$,30$>B003b004;*1$>;02$>;21$>", "", "013", OK, 0},
		{"S=AB;A=;B=b;B=", "*0$,00$,10$b>A001S002;01$,20$,30$>B003b004;*1$>;02$>;21$>", "b", "012", OK, 0},
		{"S=AB;A=;B=b;B=", "*0$,00$,10$b>A001S002;01$,20$,30$>B003b004;*1$>;02$>;21$>", "bb", "", ErrReject, 1},
		{"S=AB;A=;B=b;B=", "*0$,00$,10$b>A001S002;01$,20$,30$>B003b004;*1$>;02$>;21$>", "c", "", ErrReject, 0},
	})
}

func TestP8ErrorsInTheirOrder(t *testing.T) {
	long, wrong := strings.Repeat("a", 25), strings.Repeat("A", 25)
	for _, word := range []string{"a", "", "b", "A", "aB", long, wrong} {
		checkParses(t, []parseCase{
			// of the grammar, whatever the table
			{strings.Repeat("S=a;", 13), oneTable, word, "", ErrLong, 0},
			{"S=a;", oneTable, word, "", ErrText, 4},
			{"S", "x", word, "", ErrText, 1},
			{"S=aT", oneTable, word, "", ErrName, 3},
			{"S=a;T=T", strings.Repeat("x", 200001), word, "", ErrBarren, 4},

			// of the table, whatever the word
			{"S=a", oneTable + ";" + strings.Repeat("x", 200000), word, "", ErrLong, 0},
			{"S=a", "", word, "", ErrTable, 0},
			{"S=a", oneTable + ";x", word, "", ErrTable, 3},
			{"S=a", oneTable + strings.Repeat(";01$>", 997), word, "", ErrTable, 999},
			{"S=a", with(oneTable, ";01$", ";02$"), word, "", ErrItem, 2},
			{"S=a", with(oneTable, "a002", "a000"), word, "", ErrStart, 0},
			{"S=a", oneTable + ";*0$>S001", word, "", ErrClosed, 3},
			{"S=a", with(oneTable, "a002", ""), word, "", ErrEdge, 0},
			{"S=a", oneTable + ";00$>a002", word, "", ErrReason, 3},
			{"S=a", oneTable + ";*1$,01$>", word, "", ErrClash, 3},
			{nest, oneTable, word, "", ErrClosed, 0},
			{"S=SS;S=a", "*0$,00$a,10$a>S001a002;*1$,00$a,01$a,10$a>S003a002;11$a>;00$a,01$a,02$a,10$a>S003a002", word, "", ErrClash, 3},
		})
	}
	checkParses(t, []parseCase{
		{nest, nestTable, long, "", ErrLong, 0},
		{nest, nestTable, wrong, "", ErrLong, 0},
		{nest, nestTable, strings.Repeat("b", 25), "", ErrLong, 0},
		{nest, nestTable, strings.Repeat("a", 1<<20), "", ErrLong, 0},
		{nest, nestTable, "A", "", ErrLetter, 0},
		{nest, nestTable, "aB", "", ErrLetter, 1},
		{nest, nestTable, "ab$", "", ErrLetter, 2},
		{nest, nestTable, "$", "", ErrLetter, 0},
		{nest, nestTable, "bbbB", "", ErrLetter, 3}, // ahead of ErrReject
		{nest, nestTable, "a\x00b", "", ErrLetter, 1},
		{nest, nestTable, "é", "", ErrLetter, 0},
		{nest, nestTable, long[:23] + "S", "", ErrLetter, 23},
	})
}

// TestP8OddTables: tables that no builder would make, and that are read by all the same.
func TestP8OddTables(t *testing.T) {
	const sums = "E=EpT;E=T;T=a"
	const sumsTable = "*0$,00$p,10$p,20$p>E001T002a003;*1$,01$p>p004;11$p>;21$p>;02$p,20$p>T005a003;03$p>"
	const begun = "S=Sa;S="
	for _, c := range []struct{ grammar, table, letters string }{
		// marks that nothing asks for; `*` has some, too
		{"S=a", "*0$z,00$z>S001a002;*1$z>;01$z>", "az"},
		{"S=a", "*0$az,00$az>S001a002;*1$az>;01$az>", "az"},
		{"S=a", "*0$abcdefghijklmnopqrstuvwxyz,00$abcdefghijklmnopqrstuvwxyz>S001a002;*1$abcdefghijklmnopqrstuvwxyz>;01$abcdefghijklmnopqrstuvwxyz>", "az"},
		{nest, "*0$bz,00$bz,10$bz>S001a002;*1$bz>;00bz,01$bz,10bz>S003a002;02$bz>b004;03$abz>", "abz"},
		{begun, "*0$b,00$ab,10$ab>S001;*1$b,01$ab>a002;02$ab>", "abc"},
		{begun, "*0$,00$a,10$abc>S001;*1$b,01$abc>a002;02$abc>", "abc"},
		{sums, with(sumsTable, "11$p>", "11$ap>", "21$p>", "21$apz>"), "apz"},

		// states told twice, in another order, and such as nothing leads to
		{"S=a", "*0$,00$>S003a001;01$>;*1$>;*1$>;01$>;01$>", "ab"},
		{"S=a", with(oneTable, "a002", "a998") + strings.Repeat(";01$>", 996), "ab"},
		{nest, nestTable + ";02b>b009;03bz>", "ab"},
		{nest, nestTable + ";*1z>;03abz>", "ab"},
		{nest, with(nestTable, "S006a004", "S006a008") + ";00b,01b,10b>S009a010;02b>b007;00b,01b,10b>S009a004", "ab"},
		{nest, "*0$,00$,10$>S005a002;02$b>b003;00b,01$b,10b>S001a004;03$b>;00b,01$b,10b>S001a002;*1$>", "ab"},
		{sums, sumsTable + ";*1$,01$p>p007;02$p,20$p>T005a008;21$pz>", "ap"},
	} {
		if err, at := Valid(c.grammar, c.table); err != OK {
			t.Errorf("P6: Valid(%q, %.200q) = %d %d", c.grammar, c.table, err, at)
			continue
		}
		checkReading(t, c.grammar, c.table, wordsOf(c.letters, 7))
	}
}

// lettersOf are those of a grammar, and one that is none of its.
func lettersOf(grammar string) string {
	var letters []string
	for _, b := range strings.Split(grammar+"z", "") {
		if "a" <= b && b <= "z" {
			letters = append(letters, b)
		}
	}
	slices.Sort(letters)
	return strings.Join(slices.Compact(letters), "")
}

// someWords makes words by chance, and words that belong or nearly do.
func someWords(source *rand.Rand, grammar string, count int) []string {
	letters := lettersOf(grammar)
	words := wordsOf(letters, 2)
	for range count {
		word := wordBy(source, grammar, grammar[:1], 60)
		if source.Intn(2) == 0 && word != "" {
			at := source.Intn(len(word))
			word = word[:at] + letters[source.Intn(len(letters)):][:1] + word[at+source.Intn(2):]
		}
		words = append(words, word[:min(len(word), 24)])
	}
	return words
}

// wordBy makes a word of signs by taking rules by chance; of the names that are left when it has taken too many it makes nothing.
func wordBy(source *rand.Rand, grammar, signs string, most int) string {
	rules := strings.Split(grammar, ";")
	for ; most > 0; most-- {
		at := strings.IndexAny(signs, "ABCDEFGHIJKLMNOPQRSTUVWXYZ")
		if at < 0 {
			return signs
		}
		var rights []string
		for _, rule := range rules {
			if rule[0] == signs[at] {
				rights = append(rights, rule[2:])
			}
		}
		signs = signs[:at] + rights[source.Intn(len(rights))] + signs[at+1:]
	}
	return strings.Map(func(r rune) rune {
		if r < 'a' {
			return -1
		}
		return r
	}, signs)
}

func TestP8ByTablesThatAreBuilt(t *testing.T) {
	t.Parallel()
	source := rand.New(rand.NewSource(6))
	read, belong := 0, 0
	grammars := append(apart(), great()...)
	grammars = append(grammars, someGrammars(500, 5, "STUab")...)
	grammars = append(grammars, someGrammars(500, 8, "STUVabcd")...)
	for _, grammar := range grammars {
		table, err, _ := Build(grammar)
		if err != OK {
			continue
		}
		words := someWords(source, grammar, 40)
		checkReading(t, grammar, table, words)
		for _, word := range words {
			read++
			if count, _, _, _ := Trees(grammar, word); count == 1 {
				belong++
			}
		}
	}
	if read < 20000 || belong < 5000 {
		t.Errorf("too few to tell: %d words, %d belong", read, belong)
	}
}

func TestP9ByOddTables(t *testing.T) {
	t.Parallel()
	source := rand.New(rand.NewSource(7))
	taken := 0
	for _, grammar := range append(apart(), someGrammars(400, 5, "STUab")...) {
		for _, table := range someTables(source, grammar, 15) {
			if err, _ := Valid(grammar, table); err == OK {
				taken++
				checkReading(t, grammar, table, someWords(source, grammar, 15))
			}
		}
	}
	if taken < 1000 {
		t.Errorf("too few tables to tell: %d", taken)
	}
}

// TestP9RulesOfTheEmptyRightSide: names that stand for nothing are where reading might go on for ever.
func TestP9RulesOfTheEmptyRightSide(t *testing.T) {
	t.Parallel()
	source := rand.New(rand.NewSource(8))
	read := 0
	for _, grammar := range append(someGrammars(700, 7, "STUVab"), "S=ABC;A=;B=;C=", "S=AAA;A=", "S=SAa;S=;A=", "S=aAS;S=;A=", "S=T;T=U;U=", "S=AaA;A=BB;B=") {
		table, err, _ := Build(grammar)
		if err != OK || !strings.Contains(grammar+";", "=;") {
			continue
		}
		read++
		checkReading(t, grammar, table, wordsUpTo(3))
		states := readPlainTable(table)
		for range 5 {
			if changed := writePlainTable(moreMarks(source, grammar, copyStates(states))); changed != table {
				checkReading(t, grammar, changed, append(wordsUpTo(3), "z", "az", "aaaaaaaaaaaa"))
			}
		}
	}
	if read < 300 {
		t.Errorf("too few to tell: %d", read)
	}
}

// moreMarks adds marks that nothing asks for, and what they ask for then, as long as Valid takes the table.
func moreMarks(source *rand.Rand, grammar string, states []plainState) []plainState {
	for range 10 {
		next := copyStates(states)
		state := next[source.Intn(len(next))]
		item := pick(source, state.items)
		state.items[item] = together(state.items[item], "$abz"[source.Intn(4):][:1])
		spreadMarks(readPlainGrammar(grammar), next)
		if err, _ := Valid(grammar, writePlainTable(next)); err == OK {
			states = next
		}
	}
	return states
}

// spreadMarks adds the marks that the others ask for.
func spreadMarks(g plainGrammar, states []plainState) {
	for grown := true; grown; {
		grown = false
		for _, state := range states {
			g.closure(state.items)
			for sign, items := range g.itemsBehind(state) {
				to := states[state.edges[sign]]
				for item, marks := range items {
					if lacks(to.items[item], marks) {
						to.items[item] = together(to.items[item], marks)
						grown = true
					}
				}
			}
		}
	}
}

func TestP8TheSameAgainAndAgain(t *testing.T) {
	cases := []parseCase{
		{nest, nestSmall, "aabb", "001", OK, 0},
		{nest, nestTable, "aabbb", "", ErrReject, 4},
		{nest, nestTable, "aB", "", ErrLetter, 1},
		{"S=a", oneTable + strings.Repeat(";01$>", 900), "a", "0", OK, 0},
		{"S=a", oneTable + strings.Repeat(";01$>", 900) + ";*0$>;00$>;x", "a", "", ErrTable, 905},
		{"S=a", oneTable + strings.Repeat(";01$>", 900) + ";00$>a002;*0$>;00$>;*1$,01$>", "a", "", ErrReason, 903},
	}
	var group sync.WaitGroup
	for range 4 {
		group.Go(func() {
			for range 25 {
				checkParses(t, cases)
			}
		})
	}
	group.Wait()
}
