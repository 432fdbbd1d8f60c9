package builder

import (
	"maps"
	"slices"

	"shift/reading"
)

// settled keeps the edges, but only the marks that they ask for: edges that were drawn anew have left marks behind. A state to which no way leads any more has none.
func settled(all items, states []state) []state {
	kept := make([]state, len(states))
	for number := range states {
		kept[number].edges = states[number].edges
	}
	kept[0].marking = all.begin()
	for waiting := []int{0}; len(waiting) > 0; waiting = waiting[1:] {
		from := kept[waiting[0]]
		for _, sign := range all.signs(from.marking) {
			to := from.edges[sign]
			if kept[to].marking.add(all.behind(from.marking, sign)) {
				waiting = append(waiting, to)
			}
		}
	}
	return kept
}

// written is the states that have marks, in their order, as a table has them.
func written(all items, states []state) []reading.State {
	numbers := make([]int, len(states))
	count := 0
	for number, s := range states {
		numbers[number] = count
		if s.marking != (marking{}) {
			count++
		}
	}
	list := make([]reading.State, 0, count)
	for _, s := range states {
		if s.marking != (marking{}) {
			list = append(list, reading.State{Items: writtenItems(all, s.marking), Edges: writtenEdges(s.edges, numbers)})
		}
	}
	return list
}

func writtenItems(all items, m marking) []reading.Item {
	var list []reading.Item
	for i, k := range all {
		if m[i] != 0 {
			list = append(list, reading.Item{Rule: k.rule, Place: k.place, Marks: m[i]})
		}
	}
	return list
}

func writtenEdges(edges map[byte]int, numbers []int) []reading.Edge {
	var list []reading.Edge
	for _, sign := range slices.Sorted(maps.Keys(edges)) {
		list = append(list, reading.Edge{Sign: sign, To: numbers[edges[sign]]})
	}
	return list
}
