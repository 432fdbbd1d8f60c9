package builder

import "slices"

// state is a state that is not written yet: its edges by their signs.
type state struct {
	marking marking
	edges   map[byte]int
}

// growth is a table that grows from its first state on.
type growth struct {
	items   items
	foes    *foes
	states  []state
	alike   map[core][]int // the states that differ by their marks alone
	waiting []int          // the states whose edges are to be drawn, or drawn anew
}

// grow lets a table grow, or tells that there is none of at most so many states: there must be one of each core. It ends, as states never lose marks, and a new one has foes in all others of its core: no marking founds two.
func grow(all items, f *foes, most int) ([]state, bool) {
	g := &growth{items: all, foes: f, alike: map[core][]int{}}
	g.found(all.begin())
	for len(g.waiting) > 0 {
		number := g.waiting[0]
		g.waiting = g.waiting[1:]
		g.draw(number)
		if len(g.alike) > most {
			return nil, false
		}
	}
	return g.states, true
}

// draw draws the edges of a state.
func (g *growth) draw(number int) {
	from := g.states[number]
	for _, sign := range g.items.signs(from.marking) {
		next := g.items.behind(from.marking, sign)
		to := g.home(next)
		from.edges[sign] = to
		if g.states[to].marking.add(next) {
			g.wait(to)
		}
	}
}

// home finds a state that can take a marking without foes, and a new one only if there is none. As states never lose marks, an edge that is drawn anew leads where it did, unless there are foes by now.
func (g *growth) home(next marking) int {
	for _, number := range g.alike[next.core()] {
		if !g.foes.between(next, g.states[number].marking) {
			return number
		}
	}
	return g.found(next)
}

// found adds a state.
func (g *growth) found(m marking) int {
	number := len(g.states)
	g.states = append(g.states, state{marking: m, edges: map[byte]int{}})
	g.alike[m.core()] = append(g.alike[m.core()], number)
	g.wait(number)
	return number
}

func (g *growth) wait(number int) {
	if !slices.Contains(g.waiting, number) {
		g.waiting = append(g.waiting, number)
	}
}
