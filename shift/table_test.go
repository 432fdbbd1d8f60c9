package shift

import (
	"runtime"
	"strings"
	"sync"
	"testing"
	"time"
)

const (
	nest      = "S=aSb;S="
	nestTable = "*0$,00$,10$>S001a002;*1$>;00b,01$,10b>S003a004;02$>b005;00b,01b,10b>S006a004;03$>;02b>b007;03b>"
	nestSmall = "*0$,00$,10$>S001a002;*1$>;00b,01$b,10b>S003a002;02$b>b004;03$b>"
	oneTable  = "*0$,00$>S001a002;*1$>;01$>" // of S=a
)

type tableCase struct {
	grammar, table string
	err            Errno
	at             int
}

func checkTables(t *testing.T, cases []tableCase) {
	t.Helper()
	for _, c := range cases {
		if err, at := Valid(c.grammar, c.table); err != c.err || at != c.at {
			t.Errorf("P6: Valid(%q, %.200q) = %d %d, want %d %d", c.grammar, c.table, err, at, c.err, c.at)
		}
		if err, at := validByDefinition(c.grammar, c.table); err != c.err || at != c.at {
			t.Errorf("P6: %q, %.200q: the definition asks for %d %d, the case for %d %d", c.grammar, c.table, err, at, c.err, c.at)
		}
	}
}

// with changes the one place of a table where a piece of text stands.
func with(table string, changes ...string) string {
	for i := 0; i < len(changes); i += 2 {
		if strings.Count(table, changes[i]) != 1 {
			panic("not in one place: " + changes[i])
		}
		table = strings.Replace(table, changes[i], changes[i+1], 1)
	}
	return table
}

func TestP6ValidTables(t *testing.T) {
	checkTables(t, []tableCase{
		{nest, nestTable, OK, 0},
		{nest, nestSmall, OK, 0},
		{"S=", "*0$,00$>S001;*1$>", OK, 0},
		{"S=a", oneTable, OK, 0},
		{"S=a", "*0$,00$>S002a001;01$>;*1$>", OK, 0},
		{"S=a;T=b", oneTable, OK, 0},
		{"S=Sa;S=", "*0$,00$a,10$a>S001;*1$,01$a>a002;02$a>", OK, 0},
		{"S=ATb;A=;A=a;T=;T=c", "*0$,00$,10bc,20bc>A002S001a003;*1$>;01$,30b,40b>T004c005;21bc>;02$>b006;41b>;03$>", OK, 0},
		{"S=AT;A=a;T=;T=c", "*0$,00$,10$c>A002S001a003;*1$>;01$,20$,30$>T004c005;11$c>;02$>;31$>", OK, 0},

		// marks that nothing asks for
		{"S=a", "*0$z,00$z>S001a002;*1$z>;01$z>", OK, 0},
		{"S=a", "*0$,00$>S001a002;*1$xyz>;01$abcdefghijklmnopqrstuvwxyz>", OK, 0},
		{"S=a", "*0$,00$b>S001a002;*1$>;01$b>", OK, 0},
		{nest, with(nestTable, "00b,01$,10b", "00b,01$,10bz"), OK, 0},
		{nest, with(nestTable, ";03b>", ";03$abz>"), OK, 0},

		// states that nothing leads to, alone and in rings
		{"S=a", oneTable + ";01$>", OK, 0},
		{"S=a", oneTable + ";01z>;*1abc>", OK, 0},
		{nest, nestSmall + ";02b>b006;03b>", OK, 0},
		{nest, nestSmall + ";00b,01z,10b>S006a005;02bz>b007;03bz>", ErrEdge, 5},
		{nest, nestSmall + ";00b,01bz,10b>S006a005;02bz>b007;03bz>", OK, 0},
		{"S=Sa;S=b", "*0$,00$a,10$a>S001b003;*1$,01$a>a002;02$a>;11$a>;00a,10a>S005b006;01a>a007;11a>;02a>", OK, 0},

		// two ways to one state, and two states for one thing
		{nest, with(nestTable, "S006a004", "S006a008") + ";00b,01b,10b>S006a004", OK, 0},
		{"S=aa;S=ba", "*0$,00$,10$>S001a002b003;*1$>;01$>a004;11$>a005;02$>;12$>", OK, 0},
		{"S=TT;T=a", "*0$,00$,10a>S001T002a003;*1$>;01$,10$>T004a005;11a>;02$>;11$>", OK, 0},
		{"S=TT;T=a", "*0$,00$,10a>S001T002a003;*1$>;01$,10$>T004a003;11$a>;02$>", OK, 0},
	})
}

// notStates are texts none of which is a state.
func notStates() []string {
	return []string{
		"", " ", ">", "*", "*0", "*0$", "*0>", "*0$,>", ",*0$>", "*0$,,00$>", "*0$,00$", "*$>", "*$0>", "0$>", "00>", "000$>", "A0$>", "*A$>", "$0$>", "*0$ >", "x",
		"*:$>", "*/$>", ":0$>", "/0$>", "+0$>", ")0$>", "*0`>", "*0{>", "*0#>", "*0%>", "*0$A>", "*0$0>", "*0$*>", "*0$\n>", "*0\xff>", "*0$-00$>",
		"*0$$>", "*0a$>", "*0ba>", "*0aa>", "*0$aba>", "*0$az$>", "*0$abcdefghijklmnopqrstuvwxyzz>", "*0$abcdefghijklmnopqrstuvwxyz$>",
		"*0$,*0$>", "*0$,*0a>", "*1$,*0$>", "00$,*0$>", "00$,*1$>", "10$,00$>", "10$,01$>", "01$,00$>", "*0$,00$,00b>", "*0$,00$,*1$>",
		"*0$>S", "*0$>S1", "*0$>S01", "*0$>S0001", "*0$>S00", "*0$>001", "*0$>$001", "*0$>*001", "*0$>[001", "*0$>@001", "*0$>`001", "*0$>{001", "*0$>S00:", "*0$>S0/0", "*0$>Sa01", "*0$>S-01", "*0$>S 01",
		"*0$>S001S001", "*0$>S001S002", "*0$>S001A002", "*0$>a001S001", "*0$>b001a001", "*0$>a001a002", "*0$>A001a002B003",
		"*0$>>", "*0$>S001>", "*0$>S001,", "*0$>S001,a002", "*0$>S001 ", "*0$>\n", "*0$>é", "\x00", "\xff",
	}
}

func TestP6ErrTable(t *testing.T) {
	var cases []tableCase
	for _, text := range notStates() {
		cases = append(cases,
			tableCase{"S=a", text, ErrTable, 0},
			tableCase{"S=a", text + ";" + oneTable, ErrTable, 0},
			tableCase{"S=a", text + ";;", ErrTable, 0},
			tableCase{"S=a", oneTable + ";" + text, ErrTable, 3},
			tableCase{"S=a", oneTable + ";" + text + ";01$>;" + text, ErrTable, 3},
			tableCase{"S=a", strings.Repeat("00$>;", 998) + text, ErrTable, 998},
			tableCase{"S=a", strings.Repeat("00$>;", 999) + text, ErrTable, 999},
			tableCase{"S=a", "99$>Z999;" + text, ErrTable, 1}, // ahead of ErrItem
			tableCase{"S", text, ErrText, 1},
		)
	}
	checkTables(t, append(cases, []tableCase{
		{"S=a", ";", ErrTable, 0},
		{"S=a", oneTable + ";", ErrTable, 3},
		{"S=a", ";" + oneTable, ErrTable, 0},
		{"S=a", "*0$,00$>S001a002;;*1$>;01$>", ErrTable, 1},

		// what is written rightly is a table, whatever it means
		{"S=a", "88$>", ErrItem, 0},
		{"S=a", "*9z>", ErrItem, 0},
		{"S=a", "*0$>A000Z000a000z999", ErrItem, 0},
		{"S=a", "*0$abcdefghijklmnopqrstuvwxyz,*1$,00$>", ErrStart, 0},
	}...))
}

func TestP6BoundOfStates(t *testing.T) {
	many := func(count int, state string) string { return strings.Repeat(";"+state, count) }
	checkTables(t, []tableCase{
		{"S=a", oneTable + many(996, "01$>"), OK, 0},
		{"S=a", oneTable + many(997, "01$>"), ErrTable, 999},
		{"S=a", oneTable + many(20000, "01$>"), ErrTable, 999},
		{"S=a", oneTable + many(996, "01$>") + ";", ErrTable, 999},
		{"S=a", oneTable + many(996, "01$>") + ";x", ErrTable, 999},
		{"S=a", oneTable + many(995, "01$>") + ";x;01$>", ErrTable, 998},
		{"S=a", oneTable + many(500, "01$>") + ";x" + many(996, "01$>"), ErrTable, 503},
		{"S=a", "x" + many(1000, "01$>"), ErrTable, 0},
		{"S=a", oneTable + many(997, "09$>"), ErrTable, 999}, // ahead of ErrItem
		{"S=a", oneTable + many(996, "09$>"), ErrItem, 3},
		{"S=a", with(oneTable, "a002", "a998") + many(996, "01$>"), OK, 0},
		{"S=a", with(oneTable, "a002", "a998") + many(995, "01$>"), ErrItem, 0},
		{"S=a", with(oneTable, "a002", "a999") + many(996, "01$>"), ErrItem, 0},
	})
}

func TestP6BoundOfBytes(t *testing.T) {
	const grammar = "S=aab;S=aac;S=aad;S=aae;S=aaf;S=aag;S=aah;S=aai"
	const all = "$abcdefghijklmnopqrstuvwxyz"
	items := func(place, marks string) string {
		var list []string
		for number := range 8 {
			list = append(list, string(rune('0'+number))+place+marks)
		}
		return strings.Join(list, ",")
	}
	edges := "b004c005d006e007f008g009h010i011"
	states := []string{"*0$," + items("0", "$") + ">S001a002", "*1$>", items("1", "$") + ">a003", items("2", "$") + ">" + edges}
	for number := range 8 {
		states = append(states, string(rune('0'+number))+"3"+all+">")
	}
	table := strings.Join(states, ";")
	for _, more := range []string{";" + items("2", all) + ">" + edges, ";03$>"} {
		for len(table)+len(more)+5 <= 200000 {
			table += more
		}
	}
	table += ";03$" + "abcdefgh"[:200000-len(table)-5] + ">"
	if len(table) != 200000 {
		t.Fatalf("%d bytes", len(table))
	}
	checkTables(t, []tableCase{
		{grammar, table, OK, 0},
		{grammar, table[:len(table)-1] + "z>", ErrLong, 0},
		{grammar, table + ";", ErrLong, 0},
		{grammar, table[:len(table)-1], ErrTable, strings.Count(table, ";")},
		{grammar, "x" + table, ErrLong, 0},
		{"S=a", table, ErrItem, 0},
		{"S=a", strings.Repeat(";", 200000), ErrTable, 0},
		{"S=a", strings.Repeat(";", 200001), ErrLong, 0},
		{"S=A", strings.Repeat(";", 200001), ErrName, 2},
		{"S=S", strings.Repeat(";", 200001), ErrBarren, 0},
		{"S", strings.Repeat(";", 200001), ErrText, 1},
	})
}

func TestP6ErrItem(t *testing.T) {
	checkTables(t, []tableCase{
		{"S=a", with(oneTable, "*0$,00$", "*0$,00$,10$"), ErrItem, 0},
		{"S=a", with(oneTable, ";01$", ";11$"), ErrItem, 2},
		{"S=a", with(oneTable, ";01$", ";01$,91$"), ErrItem, 2},
		{"S=a", with(oneTable, ";01$", ";02$"), ErrItem, 2},
		{"S=a", with(oneTable, ";01$", ";01$,03$"), ErrItem, 2},
		{"S=a", with(oneTable, "*1$", "*1$,*2$"), ErrItem, 1},
		{"S=", "*0$,00$>S001;*1$,01$>", ErrItem, 1},
		{nest, with(nestTable, ";03$", ";03$,11$"), ErrItem, 5},
		{"S=a;S=b;S=c;S=d;S=e;S=f;S=g;S=h", "*0$,71$>", ErrStart, 0},
		{"S=a;S=b;S=c;S=d;S=e;S=f;S=g;S=h", "*0$,80$>", ErrItem, 0},
		{"S=abc", "03$>", ErrStart, 0},
		{"S=abc", "04$>", ErrItem, 0},

		// edges to states that are not there
		{"S=a", with(oneTable, "a002", "a003"), ErrItem, 0},
		{"S=a", with(oneTable, ";01$>", ";01$>x003"), ErrItem, 2},
		{"S=a", with(oneTable, ";01$>", ";01$>x002"), ErrEdge, 2},
		{"S=a", "*0$,00$>S001a002", ErrItem, 0},

		// the first state, and ahead of what comes behind it
		{"S=a", with(oneTable, "*1$", "*9$", ";01$", ";99$"), ErrItem, 1},
		{"S=a", with(oneTable, "*1$>", "*1$>a999", ";01$", ";99$"), ErrItem, 1},
		{"S=a", with(oneTable, "*0$,", "", ";01$", ";99$"), ErrItem, 2},
		{"S=a", with(oneTable, "*0$,00$", "*0$", ";01$", ";99$"), ErrItem, 2},
		{"S=a", "01$>;99$>;x", ErrTable, 2},
	})
}

func TestP6ErrStart(t *testing.T) {
	checkTables(t, []tableCase{
		{"S=a", "00$>a001;01$>", ErrStart, 0},
		{"S=a", "*1$>", ErrStart, 0},
		{"S=a", with(oneTable, "*0$", "*0a"), ErrStart, 0},
		{"S=a", with(oneTable, "*0$", "*0$,*1$"), ErrStart, 0},
		{"S=a", with(oneTable, "00$>", "00$,01$>"), ErrStart, 0},
		{nest, with(nestSmall, "*0$,00$,10$>", "*0$,00$,02$,10$>"), ErrStart, 0},

		// edges to state 0: from another state, from itself, from one that nothing leads to, and such as should not be there at all
		{nest, with(nestSmall, "S003a002", "S003a000"), ErrStart, 0},
		{"S=a", with(oneTable, "a002", "a000"), ErrStart, 0},
		{nest, nestSmall + ";02b>b000", ErrStart, 0},
		{"S=a", with(oneTable, ";01$>", ";01$>x000"), ErrStart, 0},

		// ahead of what comes behind it
		{"S=a", with(oneTable, "*0$,00$", "*0a"), ErrStart, 0},
		{"S=a", with(oneTable, "*0$", "*0$z", "a002", "a000"), ErrStart, 0},
	})
}

func TestP6ErrClosed(t *testing.T) {
	const mixed = "S=ATb;A=;A=a;T=;T=c"
	const mixedTable = "*0$,00$,10bc,20bc>A002S001a003;*1$>;01$,30b,40b>T004c005;21bc>;02$>b006;41b>;03$>"
	const tail = "S=AT;A=a;T=;T=c"
	const tailTable = "*0$,00$,10$c>A002S001a003;*1$>;01$,20$,30$>T004c005;11$c>;02$>;31$>"
	checkTables(t, []tableCase{
		{"S=a", "*0$>", ErrClosed, 0},
		{"S=a", "*0$,00a>S001a002;*1$>;01a>", ErrClosed, 0},
		{"S=a", "*0$z,00$>S001a002;*1$z>;01$>", ErrClosed, 0},
		{nest, with(nestTable, "*0$,00$,10$", "*0$,00$"), ErrClosed, 0},
		{nest, with(nestTable, "00b,01$,10b", "00b,01$,10a"), ErrClosed, 2},
		{nest, with(nestTable, "00b,01$,10b", "01$,10b"), ErrClosed, 2},
		{nest, with(nestTable, "00b,01b,10b", "00b,01b"), ErrClosed, 4},

		// first letters behind the want, through names that may be empty, and the item's own marks behind such
		{mixed, mixedTable, OK, 0},
		{mixed, with(mixedTable, "10bc", "10b"), ErrClosed, 0},
		{mixed, with(mixedTable, "20bc", "20c"), ErrClosed, 0},
		{mixed, with(mixedTable, "30b", "30c"), ErrClosed, 2},
		{mixed, with(mixedTable, ",40b", ""), ErrClosed, 2},
		{tail, tailTable, OK, 0},
		{tail, with(tailTable, "10$c", "10$"), ErrClosed, 0},
		{tail, with(tailTable, "10$c", "10c"), ErrClosed, 0},
		{tail, with(tailTable, "20$", "20c"), ErrClosed, 2},
		{"S=TUa;T=;U=T", "*0$,00$,10a>S001T002;*1$>;01$,10a,20a>T004U003;02$>a005;21a>;03$>", OK, 0},
		{"S=TUa;T=;U=T", "*0$,00$,10a>S001T002;*1$>;01$,10b,20a>T004U003;02$>a005;21a>;03$>", ErrClosed, 2},

		// also in states that nothing leads to, and by wants of items that are themselves at 0
		{nest, nestSmall + ";01$>S003", ErrClosed, 5},
		{"S=Ta;T=Tb;T=", "*0$,00$,10a,20a>S001T002;*1$>;01$,11a>a003b004;02$>;12a>", ErrClosed, 0},
		{"S=Ta;T=Tb;T=", "*0$,00$,10ab,20ab>S001T002;*1$>;01$,11ab>a003b004;02$>;12ab>", OK, 0},

		// ahead of the others in the same state
		{nest, with(nestTable, "*0$,00$,10$>S001a002", "*0$,00a>"), ErrClosed, 0},
		{"S=a", "*0$,00z>S001x002;*1$>;01$>", ErrClosed, 0},
	})
}

func TestP6ErrEdge(t *testing.T) {
	checkTables(t, []tableCase{
		{"S=a", with(oneTable, "S001a002", "S001"), ErrEdge, 0},
		{"S=a", with(oneTable, "S001a002", "a002"), ErrEdge, 0},
		{"S=a", with(oneTable, "S001a002", ""), ErrEdge, 0},
		{nest, with(nestTable, "S003a004", "a004"), ErrEdge, 2},
		{nest, with(nestTable, ">b007", ">"), ErrEdge, 6},

		// edges to states without the item, with it elsewhere, or without its marks
		{"S=a", with(oneTable, "S001a002", "S002a001"), ErrEdge, 0},
		{"S=a", with(oneTable, ";01$", ";01a"), ErrEdge, 0},
		{"S=a", with(oneTable, "*0$,00$", "*0$z,00$z", ";01$", ";01$z"), ErrEdge, 0},
		{"S=a", with(oneTable, "*0$,00$", "*0$z,00$z", "*1$", "*1$z"), ErrEdge, 0},
		{nest, with(nestTable, "b007", "b006"), ErrEdge, 6},
		{nest, with(nestTable, "b007", "b005"), ErrEdge, 6},
		{nest, with(nestTable, "a002", "a004"), ErrEdge, 0},

		// edges that nothing wants
		{"S=a", with(oneTable, "S001a002", "S001a002b002"), ErrEdge, 0},
		{"S=a", with(oneTable, "S001a002", "A001S001a002"), ErrEdge, 0},
		{"S=a", with(oneTable, ";01$>", ";01$>S001"), ErrEdge, 2},
		{"S=a", with(oneTable, "*1$>", "*1$>a002"), ErrEdge, 1},
		{nest, with(nestTable, ">b005", ">b005c005"), ErrEdge, 3},
		{nest, nestSmall + ";03b>b004", ErrEdge, 5},

		// ahead of those behind it in the same state
		{"S=a;S=b;T=c", "*0$,00$,10$,20$>S001a002b002;*1$>;01$,11$>;21$>", ErrEdge, 0},
		{"S=a;S=b;T=c", "*0$,00$,10$,20$>S001a002b002c003;*1$>;01$,11$>;21$>", ErrReason, 0},
	})
}

func TestP6ErrReason(t *testing.T) {
	checkTables(t, []tableCase{
		// items at 0 that nothing wants
		{"S=a;T=b", "*0$,00$,10$>S001a002b003;*1$>;01$>;11$>", ErrReason, 0},
		{"S=a", with(oneTable, "*1$>", "*1$,00$>a002"), ErrReason, 1},
		{nest, with(nestTable, "*1$>", "*1$,10$>"), ErrReason, 1},
		{nest, with(nestTable, ";03b>", ";03b,10c>"), ErrReason, 7},
		{nest, nestSmall + ";10$>", ErrReason, 5},

		// `*` at 0 is for state 0 alone
		{"S=a", oneTable + ";*0$,00$>S001a002", ErrReason, 3},
		{"S=a", oneTable + ";00$>a002", ErrReason, 3},
		{"S=Sa;S=b", "*0$,00$a,10$a>S001b003;*1$,01$a>a002;02$a>;11$a>;*0$,00$a,10$a>S001b003", ErrReason, 4},

		// items behind an edge that come from another sign, or from nowhere
		{"S=a;S=b", "*0$,00$,10$>S001a002b002;*1$>;01$,11$>", ErrReason, 0},
		{"S=ab;S=bb", "*0$,00$,10$>S001a002b002;*1$>;01$,11$>b003;02$,12$>", ErrReason, 0},
		{"S=aa", "*0$,00$>S001a002;*1$>;01$,02z>a003;02$>", ErrReason, 0},
		{nest, with(nestTable, ";02$>b005;", ";01b,02$>S006b005;"), ErrReason, 2},
		{nest, with(nestTable, ";02$>b005;", ";00b,01b,02$,10a>S006a004b005;"), ErrReason, 2},
		{nest, nestSmall + ";02b>b006;03$b,*1$>", ErrTable, 6},
		{nest, nestSmall + ";02b>b006;*1a,03$b>", ErrReason, 5},
		{"S=a", with(oneTable, ";01$>", ";*1z,01$>"), ErrReason, 0},

		// ahead of ErrClash in the same state
		{"S=a;T=a", "*0$,00$>S001a002;*1$>;01$>;01$,11$>", ErrClash, 3},
		{"S=a;T=;U=", "*0$,00$>S001a002;*1$>;01$>;10$,20$>", ErrReason, 3},
	})
}

func TestP6ErrClash(t *testing.T) {
	const ends = "S=A;S=B;A=a;B=a"
	const endsTable = "*0$,00$,10$,20$,30$>A002B003S001a004;*1$>;01$>;11$>;21$,31$>"
	const more = "S=a;S=ab"
	const moreTable = "*0$,00$,10$>S001a002;*1$>;01$,11$>b003;12$>"
	checkTables(t, []tableCase{
		// a mark of two items at their ends
		{ends, endsTable, ErrClash, 4},
		{ends, with(endsTable, "21$,31$", "21$,31$z"), ErrClash, 4},
		{"S=S;S=a", "*0$,00$,10$>S001a002;*1$,01$>;11$>", ErrClash, 1},
		{"S=;S=", "*0$,00$,10$>S001;*1$>", ErrClash, 0},
		{"S=;S=T;T=a", "*0$,00$,10$,20$>S001T002a003;*1$>;11$>;21$>", OK, 0},
		{"S=;S=T;T=", "*0$,00$,10$,20$>S001T002;*1$>;11$>", ErrClash, 0},

		// a mark of one, if an item wants that letter: also a mark that nothing asks for
		{more, moreTable, OK, 0},
		{more, with(moreTable, "01$,11$", "01$z,11$"), OK, 0},
		{more, with(moreTable, "01$,11$", "01$b,11$"), ErrClash, 2},
		{more, with(moreTable, "01$,11$", "01$,11$b"), ErrEdge, 2},
		{more, with(moreTable, "01$,11$", "01$,11$b", "12$", "12$b"), OK, 0},
		{"S=Sa;S=", "*0$,00$a,10$a>S001;*1$a,01$a>a002;02$a>", ErrClash, 1},
		{"S=Sa;S=", "*0$b,00$ab,10$ab>S001;*1$b,01$ab>a002;02$ab>", OK, 0},
		{nest, with(nestTable, "00b,01$,10b", "00b,01$,10ab"), ErrClash, 2},

		// a name that is wanted clashes with nothing, nor does an end that is wanted by none
		{"S=aT;T=;T=b", "*0$,00$>S001a002;*1$>;01$,10$,20$>T003b004;02$>;21$>", OK, 0},

		// also in states that nothing leads to
		{more, moreTable + ";01$b,11$>b003", ErrClash, 4},
	})
}

func TestP6TheLowestStateComesFirst(t *testing.T) {
	closed, edge, reason, clash := ";10$>S001", ";01$>x002", ";20c>", ";31$,41$>"
	const grammar = "S=a;T=S;S=;T=b;S=b"
	const good = "*0$,00$,20$,40$>S001a002b003;*1$>;01$>;41$>"
	checkTables(t, []tableCase{
		{grammar, good, OK, 0},
		{grammar, good + closed, ErrClosed, 4},
		{grammar, good + edge, ErrEdge, 4},
		{grammar, good + reason, ErrReason, 4},
		{grammar, good + clash, ErrClash, 4},
		{grammar, good + clash + closed + edge + reason, ErrClash, 4},
		{grammar, good + reason + clash + closed, ErrReason, 4},
		{grammar, good + edge + reason + closed, ErrEdge, 4},
		{grammar, good + ";31$>" + edge + closed, ErrEdge, 5},
		{grammar, good + strings.Repeat(";31$>", 900) + reason + strings.Repeat(closed, 90), ErrReason, 904},
		{grammar, good + strings.Repeat(";31$>", 994) + clash, ErrClash, 998},
		{grammar, good + strings.Repeat(clash, 500) + strings.Repeat(closed, 400), ErrClash, 4},
		{grammar, with(good, "20$,", "") + clash, ErrClosed, 0},
		{grammar, with(good, "b003", "") + closed, ErrEdge, 0},
	})
}

func TestP6TheSameAgainAndAgain(t *testing.T) {
	const grammar = "S=a;T=S;S=;T=b;S=b"
	const good = "*0$,00$,20$,40$>S001a002b003;*1$>;01$>;41$>"
	bad := strings.Repeat(";10$>S001;01$>x002;20c>;31$,41$>", 100)
	tables := []tableCase{
		{grammar, good + strings.Repeat(";31$>", 300) + ";31$,41$>" + bad, ErrClash, 304},
		{grammar, good + strings.Repeat(";31$>", 300) + ";20c>" + bad, ErrReason, 304},
		{grammar, good + strings.Repeat(";31$>", 300) + ";01$>x002" + bad, ErrEdge, 304},
		{grammar, good + strings.Repeat(";31$>", 300) + ";10$>S001" + bad, ErrClosed, 304},
		{grammar, good + strings.Repeat(";31$>", 300) + ";91$>;39$>;31$>z999", ErrItem, 304},
		{grammar, good + strings.Repeat(";31$>", 300), OK, 0},
	}
	var group sync.WaitGroup
	for range 4 {
		group.Go(func() {
			for range 25 {
				for _, c := range tables {
					if err, at := Valid(c.grammar, c.table); err != c.err || at != c.at {
						t.Errorf("P2, P6: %d %d, want %d %d", err, at, c.err, c.at)
					}
				}
			}
		})
	}
	group.Wait()
}

func TestP6EveryByteAtEveryPlace(t *testing.T) {
	for i := range len(nestSmall) {
		for b := range 256 {
			text := nestSmall[:i] + string([]byte{byte(b)}) + nestSmall[i+1:]
			err, at := Valid(nest, text)
			wantErr, wantAt := validByDefinition(nest, text)
			if err != wantErr || at != wantAt {
				t.Errorf("P1, P6: Valid(%q, %q) = %d %d, want %d %d", nest, text, err, at, wantErr, wantAt)
			}
		}
	}
}

func TestP6AllWorkersEnd(t *testing.T) {
	before := runtime.NumGoroutine()
	for _, table := range []string{oneTable + strings.Repeat(";01$>", 900), oneTable + strings.Repeat(";00$>", 900), strings.Repeat("99$>;", 900) + "99$>"} {
		for range 5 {
			Valid("S=a", table)
		}
	}
	for range 100 { // one that has ended may be counted for a moment
		if runtime.NumGoroutine() <= before {
			return
		}
		time.Sleep(10 * time.Millisecond)
	}
	t.Errorf("%d goroutines are left, %d were there before", runtime.NumGoroutine(), before)
}
