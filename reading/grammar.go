package reading

import "shift/fault"

// The bounds of a grammar.
const (
	MaxGrammar = 50 // bytes
	MaxRules   = 8
	MaxRight   = 3 // signs of a right side
)

// Rule is one rule of a grammar.
type Rule struct {
	Name  byte
	Right string
	place int // where it begins in the grammar's text
}

// signPlace is where a sign of the right side stands in the grammar's text: the name and the '=' are ahead of it.
func (r Rule) signPlace(sign int) int { return r.place + 2 + sign }

// Grammar is a grammar in which every name has a rule and a tree.
type Grammar struct {
	Rules   []Rule
	numbers map[byte]int // of its names, from 0 on, in the order of their first rules
}

// Start is the grammar's start.
func (g *Grammar) Start() byte { return g.Rules[0].Name }

// Names is how many names there are.
func (g *Grammar) Names() int { return len(g.numbers) }

// Number is the number of a name of the grammar.
func (g *Grammar) Number(name byte) int { return g.numbers[name] }

type grammarReader struct {
	core
}

// ReadGrammar reads a grammar, or tells why the text is none to read by.
func ReadGrammar(text string) (*Grammar, error) {
	r := grammarReader{core{kind: "grammar", text: text}}
	if err := r.within(MaxGrammar); err != nil {
		return nil, err
	}
	rules, err := r.rules()
	if err != nil {
		return nil, err
	}
	g := &Grammar{Rules: rules, numbers: numberNames(rules)}
	if err := r.names(g); err != nil {
		return nil, err
	}
	if err := r.barren(g); err != nil {
		return nil, err
	}
	return g, nil
}

func (r *grammarReader) rules() ([]Rule, error) {
	var rules []Rule
	for {
		rule, err := r.rule()
		if err != nil {
			return nil, err
		}
		rules = append(rules, rule)
		if r.ended() {
			return rules, nil
		}
		if len(rules) == MaxRules || !r.take(only(';')) {
			return nil, r.wrong(r.at, fault.Text)
		}
	}
}

func (r *grammarReader) rule() (Rule, error) {
	place := r.at
	if !r.take(IsName) || !r.take(only('=')) {
		return Rule{}, r.wrong(r.at, fault.Text)
	}
	return Rule{Name: r.text[place], Right: r.run(MaxRight, isSign), place: place}, nil
}

func numberNames(rules []Rule) map[byte]int {
	numbers := map[byte]int{}
	for _, rule := range rules {
		if _, ok := numbers[rule.Name]; !ok {
			numbers[rule.Name] = len(numbers)
		}
	}
	return numbers
}

// names refuses a grammar with a name in a right side that no rule has.
func (r *grammarReader) names(g *Grammar) error {
	for _, rule := range g.Rules {
		for i := range len(rule.Right) {
			if _, ok := g.numbers[rule.Right[i]]; !ok && IsName(rule.Right[i]) {
				return r.wrong(rule.signPlace(i), fault.Name)
			}
		}
	}
	return nil
}

// barren refuses a grammar with a rule whose name has no tree.
func (r *grammarReader) barren(g *Grammar) error {
	fertile := g.fertile()
	for _, rule := range g.Rules {
		if !fertile[g.Number(rule.Name)] {
			return r.wrong(rule.place, fault.Barren)
		}
	}
	return nil
}

// fertile tells of each name, by its number, whether there is a tree of it.
func (g *Grammar) fertile() []bool {
	fertile := make([]bool, g.Names())
	grows := func(rule Rule) bool {
		for i := range len(rule.Right) {
			if IsName(rule.Right[i]) && !fertile[g.Number(rule.Right[i])] {
				return false
			}
		}
		return !fertile[g.Number(rule.Name)]
	}
	for grown := true; grown; {
		grown = false
		for _, rule := range g.Rules {
			if grows(rule) {
				fertile[g.Number(rule.Name)] = true
				grown = true
			}
		}
	}
	return fertile
}
