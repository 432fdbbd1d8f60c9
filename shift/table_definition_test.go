package shift

// What the document says of tables, written down as plainly as can be and slow, to hold Valid against at many tables, good ones and spoilt ones.

import (
	"maps"
	"math/rand"
	"regexp"
	"slices"
	"strconv"
	"strings"
	"testing"
)

// plainState is a state by its texts: the marks of each item by its rule and place ("*0"), and the number behind each edge by its sign.
type plainState struct {
	items map[string]string
	edges map[string]int
}

var wholeState = regexp.MustCompile(`\A[*0-9][0-9][$a-z]+(,[*0-9][0-9][$a-z]+)*>([A-Za-z][0-9][0-9][0-9])*\z`)

func readPlainState(text string) (plainState, bool) {
	state := plainState{map[string]string{}, map[string]int{}}
	if !wholeState.MatchString(text) {
		return state, false
	}
	left, right, _ := strings.Cut(text, ">")
	var heads, signs []string
	for _, item := range strings.Split(left, ",") {
		if !rises(strings.Split(item[2:], "")) {
			return state, false
		}
		heads = append(heads, item[:2])
		state.items[item[:2]] = item[2:]
	}
	for ; right != ""; right = right[4:] {
		signs = append(signs, right[:1])
		state.edges[right[:1]], _ = strconv.Atoi(right[1:4])
	}
	return state, rises(heads) && rises(signs)
}

// readPlainTable reads a text that is a table.
func readPlainTable(table string) []plainState {
	var states []plainState
	for _, piece := range strings.Split(table, ";") {
		state, _ := readPlainState(piece)
		states = append(states, state)
	}
	return states
}

func rises(list []string) bool {
	for i := 1; i < len(list); i++ {
		if list[i-1] >= list[i] {
			return false
		}
	}
	return true
}

// plainGrammar has what the definitions ask of a grammar: right sides by the rules' texts, `*` among them, and the words of names, cut behind one letter.
type plainGrammar struct {
	names, rights map[string]string
	words         map[byte][]string
}

func readPlainGrammar(grammar string) plainGrammar {
	g := plainGrammar{map[string]string{}, map[string]string{"*": grammar[:1]}, firsts(grammar, 1)}
	for number, rule := range strings.Split(grammar, ";") {
		g.names[strconv.Itoa(number)] = rule[:1]
		g.rights[strconv.Itoa(number)] = rule[2:]
	}
	return g
}

func placeOf(item string) int { return int(item[1] - '0') }

func oneFurther(item string) string { return item[:1] + string(item[1]+1) }

func (g plainGrammar) want(item string) string {
	right := g.rights[item[:1]]
	if placeOf(item) == len(right) {
		return ""
	}
	return right[placeOf(item):][:1]
}

func (g plainGrammar) follow(item, marks string) string {
	behind := g.rights[item[:1]][placeOf(item)+1:]
	words := []string{""}
	for i := range len(behind) {
		tails := []string{behind[i : i+1]}
		if behind[i] <= 'Z' {
			tails = g.words[behind[i]]
		}
		words = joined(words, tails, 1)
	}
	all := ""
	for _, word := range words {
		if word == "" {
			word = marks
		}
		all = together(all, word)
	}
	return all
}

// together puts the marks of both into one rising text.
func together(a, b string) string {
	all := strings.Split(a+b, "")
	slices.Sort(all)
	return strings.Join(slices.Compact(all), "")
}

func validByDefinition(grammar, table string) (Errno, int) {
	if err, at := checkByDefinition(grammar); err != OK {
		return err, at
	}
	if len(table) > 200000 {
		return ErrLong, 0
	}
	var states []plainState
	for number, piece := range strings.Split(table, ";") {
		state, ok := readPlainState(piece)
		if !ok || number == 999 {
			return ErrTable, number
		}
		states = append(states, state)
	}
	g := readPlainGrammar(grammar)
	for number, state := range states {
		for item := range state.items {
			if right, ok := g.rights[item[:1]]; !ok || placeOf(item) > len(right) {
				return ErrItem, number
			}
		}
		for _, to := range state.edges {
			if to >= len(states) {
				return ErrItem, number
			}
		}
	}
	if startFails(states) {
		return ErrStart, 0
	}
	for number, state := range states {
		switch {
		case g.closedFails(state):
			return ErrClosed, number
		case g.edgeFails(states, state):
			return ErrEdge, number
		case g.reasonFails(states, number):
			return ErrReason, number
		case g.clashFails(state):
			return ErrClash, number
		}
	}
	return OK, 0
}

func startFails(states []plainState) bool {
	for item := range states[0].items {
		if placeOf(item) != 0 {
			return true
		}
	}
	for _, state := range states {
		for _, to := range state.edges {
			if to == 0 {
				return true
			}
		}
	}
	return !strings.Contains(states[0].items["*0"], "$")
}

func lacks(marks, wanted string) bool { return together(marks, wanted) != marks }

func (g plainGrammar) closedFails(state plainState) bool {
	for item, marks := range state.items {
		for number, name := range g.names {
			if name == g.want(item) && lacks(state.items[number+"0"], g.follow(item, marks)) {
				return true
			}
		}
	}
	return false
}

func (g plainGrammar) edgeFails(states []plainState, state plainState) bool {
	wanted := map[string]bool{}
	for item, marks := range state.items {
		want := g.want(item)
		if want == "" {
			continue
		}
		wanted[want] = true
		if to, ok := state.edges[want]; !ok || lacks(states[to].items[oneFurther(item)], marks) {
			return true
		}
	}
	return len(wanted) != len(state.edges)
}

func (g plainGrammar) reasonFails(states []plainState, number int) bool {
	state := states[number]
	wanted := ""
	for item := range state.items {
		wanted += g.want(item)
	}
	for item := range state.items {
		name := g.names[item[:1]]
		if placeOf(item) == 0 && (name == "" || !strings.Contains(wanted, name)) && (item != "*0" || number != 0) {
			return true
		}
	}
	for sign, to := range state.edges {
		for item := range states[to].items {
			if placeOf(item) == 0 {
				continue
			}
			found := false
			for earlier := range state.items {
				found = found || oneFurther(earlier) == item && g.want(earlier) == sign
			}
			if !found {
				return true
			}
		}
	}
	return false
}

func (g plainGrammar) clashFails(state plainState) bool {
	ended, wanted := "", ""
	for item, marks := range state.items {
		if want := g.want(item); want != "" {
			wanted += want
		} else if strings.ContainsAny(ended, marks) {
			return true
		} else {
			ended += marks
		}
	}
	return wanted != "" && strings.ContainsAny(ended, wanted)
}

// closure adds to items what must stand beside them.
func (g plainGrammar) closure(items map[string]string) {
	for grown := true; grown; {
		grown = false
		for item, marks := range maps.Clone(items) {
			for number, name := range g.names {
				if name != g.want(item) {
					continue
				}
				if follow := g.follow(item, marks); lacks(items[number+"0"], follow) {
					items[number+"0"] = together(items[number+"0"], follow)
					grown = true
				}
			}
		}
	}
}

func (g plainGrammar) itemsBehind(state plainState) map[string]map[string]string {
	behind := map[string]map[string]string{}
	for item, marks := range state.items {
		if want := g.want(item); want != "" {
			if behind[want] == nil {
				behind[want] = map[string]string{}
			}
			behind[want][oneFurther(item)] = marks
		}
	}
	return behind
}

// plainTable makes a table from the first state on: every state has just the items and marks that it must have, so only clashes can be wrong with it.
func plainTable(grammar string, most int) []plainState {
	g := readPlainGrammar(grammar)
	first := map[string]string{"*0": "$"}
	g.closure(first)
	states := []plainState{{first, map[string]int{}}}
	for from := 0; from < len(states); from++ {
		behind := g.itemsBehind(states[from])
		for _, sign := range slices.Sorted(maps.Keys(behind)) {
			items := behind[sign]
			g.closure(items)
			to := slices.IndexFunc(states, func(s plainState) bool { return maps.Equal(s.items, items) })
			if to < 0 {
				to = len(states)
				states = append(states, plainState{items, map[string]int{}})
			}
			states[from].edges[sign] = to
		}
		if len(states) > most {
			return nil
		}
	}
	return states
}

func writePlainTable(states []plainState) string {
	var pieces []string
	for _, state := range states {
		var items []string
		for _, item := range slices.Sorted(maps.Keys(state.items)) {
			items = append(items, item+state.items[item])
		}
		piece := strings.Join(items, ",") + ">"
		for _, sign := range slices.Sorted(maps.Keys(state.edges)) {
			piece += sign + threeDigits(state.edges[sign])
		}
		pieces = append(pieces, piece)
	}
	return strings.Join(pieces, ";")
}

func threeDigits(number int) string { return strconv.Itoa(1000 + number)[1:] }

func copyStates(states []plainState) []plainState {
	var all []plainState
	for _, state := range states {
		all = append(all, plainState{maps.Clone(state.items), maps.Clone(state.edges)})
	}
	return all
}

// mergeAlike lays states of the same rules and places together, as builders of small tables do.
func mergeAlike(states []plainState) []plainState {
	var merged []plainState
	became := make([]int, len(states))
	for number, state := range states {
		head := slices.Sorted(maps.Keys(state.items))
		to := slices.IndexFunc(merged, func(s plainState) bool { return slices.Equal(slices.Sorted(maps.Keys(s.items)), head) })
		if to < 0 {
			to = len(merged)
			merged = append(merged, plainState{map[string]string{}, maps.Clone(state.edges)})
		}
		for item, marks := range state.items {
			merged[to].items[item] = together(merged[to].items[item], marks)
		}
		became[number] = to
	}
	for _, state := range merged {
		for sign, to := range state.edges {
			state.edges[sign] = became[to]
		}
	}
	return merged
}

func pick[K ~string, V any](source *rand.Rand, from map[K]V) K {
	keys := slices.Sorted(maps.Keys(from))
	if len(keys) == 0 {
		return ""
	}
	return keys[source.Intn(len(keys))]
}

// change makes one change to a table, such as only a checker that trusts none would find.
func change(source *rand.Rand, states []plainState) []plainState {
	state := states[source.Intn(len(states))]
	item := pick(source, state.items)
	sign := pick(source, state.edges)
	mark := "$abcz"[source.Intn(5):][:1]
	switch source.Intn(11) {
	case 0:
		if len(state.items) > 1 {
			delete(state.items, item)
		}
	case 1:
		state.items["*01234"[source.Intn(6):][:1]+"0123"[source.Intn(4):][:1]] = mark
	case 2:
		state.items[item] = together(state.items[item], mark)
	case 3, 4:
		if rest := strings.ReplaceAll(state.items[item], mark, ""); rest != "" {
			state.items[item] = rest
		}
	case 5:
		delete(state.edges, sign)
	case 6:
		state.edges["STUabc"[source.Intn(6):][:1]] = source.Intn(len(states))
	case 7:
		if sign != "" {
			state.edges[sign] = source.Intn(len(states) + source.Intn(2))
		}
	case 8, 9:
		states = append(states, copyStates([]plainState{state})...)
	case 10:
		if to, ok := state.edges[sign]; ok && to < len(states) { // the same again, but for this edge alone
			states = append(states, copyStates(states[to:to+1])...)
			state.edges[sign] = len(states) - 1
		}
	}
	return states
}

// spoilText changes one byte, adds one or takes one away.
func spoilText(source *rand.Rand, text string) string {
	at := source.Intn(len(text))
	some := "*0123$abz,>;STU"[source.Intn(15):][:1]
	switch source.Intn(3) {
	case 0:
		return text[:at] + some + text[at+1:]
	case 1:
		return text[:at] + some + text[at:]
	}
	return text[:at] + text[at+1:]
}

// someTables makes a grammar's table, a smaller one, and many that are changed.
func someTables(source *rand.Rand, grammar string, count int) []string {
	states := plainTable(grammar, 60)
	if states == nil {
		return nil
	}
	kinds := [][]plainState{states, mergeAlike(states)}
	all := []string{writePlainTable(kinds[0]), writePlainTable(kinds[1])}
	for range count {
		changed := copyStates(kinds[source.Intn(2)])
		for range 1 + source.Intn(3) {
			changed = change(source, changed)
		}
		text := writePlainTable(changed)
		if source.Intn(4) == 0 {
			text = spoilText(source, text)
		}
		all = append(all, text)
	}
	return all
}

func TestP6ByDefinition(t *testing.T) {
	t.Parallel()
	source := rand.New(rand.NewSource(4))
	seen := [ErrClash + 1]int{}
	for _, grammar := range someGrammars(1500, 5, "STUab") {
		for _, table := range someTables(source, grammar, 30) {
			err, at := Valid(grammar, table)
			wantErr, wantAt := validByDefinition(grammar, table)
			if err != wantErr || at != wantAt {
				t.Fatalf("P6: Valid(%q, %q) = %d %d, want %d %d", grammar, table, err, at, wantErr, wantAt)
			}
			seen[err]++
		}
	}
	for _, err := range []Errno{OK, ErrTable, ErrItem, ErrStart, ErrClosed, ErrEdge, ErrReason, ErrClash} {
		if seen[err] < 100 {
			t.Errorf("too few of a kind to tell: %v", seen)
		}
	}
}

// readPlainly reads a word as the document says one reads by a table. It answers the tree's text and true, or false and how far it came.
func readPlainly(g plainGrammar, states []plainState, word string) (string, bool, int) {
	path, texts, at := []int{0}, []string{""}, 0
	for range 10000 {
		state := states[path[len(path)-1]]
		mark := (word + "$")[at : at+1]
		ended := ""
		for item, marks := range state.items {
			if g.want(item) == "" && strings.Contains(marks, mark) {
				ended = item
			}
		}
		if ended == "*1" && mark == "$" {
			return texts[len(texts)-1], true, 0
		}
		if ended != "" && ended != "*1" {
			size := len(path) - placeOf(ended)
			text := ended[:1] + strings.Join(texts[size:], "")
			to, ok := states[path[size-1]].edges[g.names[ended[:1]]]
			if !ok {
				return "an edge is missing", true, 0
			}
			path, texts = append(path[:size], to), append(texts[:size], text)
			continue
		}
		to, ok := state.edges[mark]
		if !ok {
			return "", false, at
		}
		path, texts, at = append(path, to), append(texts, ""), at+1
	}
	return "it does not end", true, 0
}

func TestP6TablesThatAreTakenReadRightly(t *testing.T) {
	t.Parallel()
	source := rand.New(rand.NewSource(5))
	words := append(wordsUpTo(4), "z", "ac", "abz", "aabbaabb", "abababab", "bbbbbbbb")
	taken := 0
	for _, grammar := range someGrammars(400, 5, "STUab") {
		g := readPlainGrammar(grammar)
		for _, table := range someTables(source, grammar, 30) {
			if err, _ := Valid(grammar, table); err != OK {
				continue
			}
			taken++
			states := readPlainTable(table)
			for _, word := range words {
				count, want, _, _ := Trees(grammar, word)
				wantAt, _, _ := Prefix(grammar, word)
				text, ok, at := readPlainly(g, states, word)
				if count > 1 || ok != (count == 1) || text != want || !ok && at != wantAt {
					t.Fatalf("P6: by %q and %q one reads %q as %q %v %d, want %q, %d trees, %d", grammar, table, word, text, ok, at, want, count, wantAt)
				}
			}
		}
	}
	if taken < 100 {
		t.Errorf("too few tables to tell: %d", taken)
	}
}
