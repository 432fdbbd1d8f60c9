package shift

// The document's definitions, written down as plainly as can be and slow, to hold the calls against at many grammars.

import (
	"math/rand"
	"regexp"
	"slices"
	"strings"
	"testing"
)

var wholeGrammar = regexp.MustCompile(`\A[A-Z]=[A-Za-z]{0,3}(;[A-Z]=[A-Za-z]{0,3}){0,7}\z`)

// canBegin tells whether a grammar begins with a text: if so, one of these ends makes it one.
func canBegin(text string) bool {
	for _, end := range []string{"", "=", "S="} {
		if wholeGrammar.MatchString(text + end) {
			return true
		}
	}
	return false
}

func checkByDefinition(text string) (Errno, int) {
	if len(text) > 50 {
		return ErrLong, 0
	}
	if !wholeGrammar.MatchString(text) {
		for size := range len(text) {
			if !canBegin(text[:size+1]) {
				return ErrText, size
			}
		}
		return ErrText, len(text)
	}
	for i := range len(text) {
		isName := 'A' <= text[i] && text[i] <= 'Z'
		if isName && !strings.Contains(";"+text, ";"+text[i:i+1]+"=") {
			return ErrName, i
		}
	}
	fertile := firsts(text, 0)
	place := 0
	for _, rule := range strings.Split(text, ";") {
		if len(fertile[rule[0]]) == 0 {
			return ErrBarren, place
		}
		place += len(rule) + 1
	}
	return OK, 0
}

// firsts gives for each name its words, each cut behind so many letters.
func firsts(grammar string, size int) map[byte][]string {
	known := map[byte][]string{}
	for grown := true; grown; {
		grown = false
		for _, rule := range strings.Split(grammar, ";") {
			made := []string{""}
			for i := 2; i < len(rule); i++ {
				tails := []string{rule[i : i+1]}
				if rule[i] <= 'Z' {
					tails = known[rule[i]]
				}
				made = joined(made, tails, size)
			}
			for _, word := range made {
				if !slices.Contains(known[rule[0]], word) {
					known[rule[0]] = append(known[rule[0]], word)
					grown = true
				}
			}
		}
	}
	return known
}

func joined(heads, tails []string, size int) []string {
	var all []string
	for _, head := range heads {
		for _, tail := range tails {
			word := head + tail
			word = word[:min(size, len(word))]
			if !slices.Contains(all, word) {
				all = append(all, word)
			}
		}
	}
	return all
}

func prefixByDefinition(starts []string, word string) int {
	for size := len(word); size > 0; size-- {
		for _, first := range starts {
			if strings.HasPrefix(first, word[:size]) {
				return size
			}
		}
	}
	return 0
}

// treesByDefinition lists the texts of trees by name and word, for all pieces of a word, higher and higher trees, the two shortest of each. No path of the shortest has the same name and piece twice, nor thrice of the next one: so much bounds their height.
func treesByDefinition(grammar, word string) []string {
	rules := strings.Split(grammar, ";")
	pieces := map[string]bool{}
	for from := range len(word) + 1 {
		for to := from; to <= len(word); to++ {
			pieces[word[from:to]] = true
		}
	}
	type key struct {
		name byte
		word string
	}
	names := map[byte]bool{}
	for _, rule := range rules {
		names[rule[0]] = true
	}
	known := map[key][]string{}
	for range 2*len(names)*len(pieces) + 2 {
		higher := map[key][]string{}
		for piece := range pieces {
			for number, rule := range rules {
				heads := texts(rule[2:], piece, func(name byte, word string) []string { return known[key{name, word}] })
				for _, text := range heads {
					k := key{rule[0], piece}
					higher[k] = append(higher[k], string(rune('0'+number))+text)
				}
			}
		}
		same := len(higher) == len(known)
		for k, list := range higher {
			higher[k] = twoShortest(list)
			same = same && slices.Equal(higher[k], known[k])
		}
		known = higher
		if same {
			break
		}
	}
	return known[key{grammar[0], word}]
}

// texts lists the texts of signs for a word: those of their trees behind one another.
func texts(signs, word string, of func(byte, string) []string) []string {
	if signs == "" {
		if word == "" {
			return []string{""}
		}
		return nil
	}
	if signs[0] > 'Z' {
		if strings.HasPrefix(word, signs[:1]) {
			return texts(signs[1:], word[1:], of)
		}
		return nil
	}
	var all []string
	for cut := range len(word) + 1 {
		for _, head := range of(signs[0], word[:cut]) {
			for _, tail := range texts(signs[1:], word[cut:], of) {
				all = append(all, head+tail)
			}
		}
	}
	return all
}

func twoShortest(list []string) []string {
	slices.SortFunc(list, func(a, b string) int {
		if len(a) != len(b) {
			return len(a) - len(b)
		}
		return strings.Compare(a, b)
	})
	list = slices.Compact(list)
	return list[:min(2, len(list))]
}

// someGrammars makes many grammars, always the same ones, that Check takes.
func someGrammars(count, rules int, signs string) []string {
	source := rand.New(rand.NewSource(1))
	var all []string
	for len(all) < count {
		var lines []string
		for range 1 + source.Intn(rules) {
			line := signs[source.Intn(3):][:1] + "="
			for range source.Intn(4) {
				line += signs[source.Intn(len(signs)):][:1]
			}
			lines = append(lines, line)
		}
		grammar := strings.Join(lines, ";")
		if err, _ := checkByDefinition(grammar); err == OK {
			all = append(all, grammar)
		}
	}
	return all
}

func wordsUpTo(size int) []string {
	all := []string{""}
	for from := 0; len(all[from]) < size; from++ {
		all = append(all, all[from]+"a", all[from]+"b")
	}
	return all
}

func TestP3ByDefinition(t *testing.T) {
	t.Parallel()
	texts := []string{""}
	for from := 0; len(texts[from]) < 6; from++ {
		for _, sign := range []string{"S", "T", "a", "=", ";", "."} {
			texts = append(texts, texts[from]+sign)
		}
	}
	source := rand.New(rand.NewSource(2))
	for range 20000 {
		var lines []string
		for range source.Intn(10) {
			lines = append(lines, "STU"[source.Intn(3):][:1]+"="+"aSbTaUS"[source.Intn(4):][:source.Intn(4)])
		}
		text := []byte(strings.Join(lines, ";"))
		if len(text) > 0 && source.Intn(2) == 0 {
			text[source.Intn(len(text))] = byte(source.Intn(256))
		}
		texts = append(texts, string(text))
	}
	texts = append(texts, someGrammars(500, 8, "STUab")...)
	seen := [5]int{}
	for _, text := range texts {
		err, at := Check(text)
		seen[err]++
		wantErr, wantAt := checkByDefinition(text)
		if err != wantErr || at != wantAt {
			t.Errorf("P3: Check(%q) = %d %d, want %d %d", text, err, at, wantErr, wantAt)
		}
	}
	if min(seen[OK], seen[ErrText], seen[ErrName], seen[ErrBarren]) < 100 {
		t.Errorf("too few of a kind to tell: %v", seen)
	}
}

func TestP4ByDefinition(t *testing.T) {
	t.Parallel()
	words := wordsUpTo(4)
	seen := [3]int{}
	for _, grammar := range someGrammars(2000, 6, "STUab") {
		for _, word := range words {
			want := treesByDefinition(grammar, word)
			wantText := ""
			if len(want) == 1 {
				wantText = want[0]
			}
			count, text, err, at := Trees(grammar, word)
			if count != len(want) || text != wantText || err != OK || at != 0 {
				t.Fatalf("P4: Trees(%q, %q) = %d %q %d %d, want %d %q 0 0", grammar, word, count, text, err, at, len(want), wantText)
			}
			seen[count]++
		}
	}
	if min(seen[0], seen[1], seen[2]) < 100 {
		t.Errorf("too few of a kind to tell: %v", seen)
	}
}

func TestP5ByDefinition(t *testing.T) {
	t.Parallel()
	words := wordsUpTo(5)
	seen := [6]int{}
	for _, grammar := range someGrammars(2000, 6, "STUab") {
		starts := firsts(grammar, 5)[grammar[0]]
		for _, word := range words {
			want := prefixByDefinition(starts, word)
			size, err, at := Prefix(grammar, word)
			if size != want || err != OK || at != 0 {
				t.Fatalf("P5: Prefix(%q, %q) = %d %d %d, want %d 0 0", grammar, word, size, err, at, want)
			}
			seen[size]++
		}
	}
	if slices.Min(seen[:]) < 100 {
		t.Errorf("too few of a kind to tell: %v", seen)
	}
}

// readTree gives the word of the tree whose text begins here, and what is behind that text.
func readTree(rules []string, name byte, text string) (word, rest string) {
	if text == "" || int(text[0]-'0') >= len(rules) || rules[text[0]-'0'][0] != name {
		return "?", ""
	}
	rule := rules[text[0]-'0']
	rest = text[1:]
	for i := 2; i < len(rule); i++ {
		piece := rule[i : i+1]
		if rule[i] <= 'Z' {
			piece, rest = readTree(rules, rule[i], rest)
		}
		word += piece
	}
	return word, rest
}

func TestP4AndP5LongWords(t *testing.T) {
	t.Parallel()
	source := rand.New(rand.NewSource(3))
	ones := 0
	for _, grammar := range someGrammars(3000, 8, "STUab") {
		word := ""
		for range source.Intn(25) {
			word += "ab"[source.Intn(2):][:1]
		}
		size, _, _ := Prefix(grammar, word)
		for end := range len(word) + 1 {
			count, text, err, at := Trees(grammar, word[:end])
			if err != OK || at != 0 || count > 0 && size < end {
				t.Fatalf("P5: Prefix(%q, %q) = %d, but Trees takes %d letters (%d %d %d)", grammar, word, size, end, count, err, at)
			}
			if count != 1 {
				continue
			}
			ones++
			if got, rest := readTree(strings.Split(grammar, ";"), grammar[0], text); got != word[:end] || rest != "" {
				t.Fatalf("P4: Trees(%q, %q): %q is no tree of it", grammar, word[:end], text)
			}
		}
	}
	if ones < 100 {
		t.Errorf("too few words of one tree to tell: %d", ones)
	}
}
