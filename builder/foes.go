package builder

import "shift/reading"

// foes tells which items, each with one mark, may not stand in one state, as from there some way leads to a clash: by an item's number, the number of its mark and the other item's number, the marks of the other.
//
// What a way leads to from a state is what it leads to from each of the state's items with each of its marks, laid together, and a clash is between two. So a state is free of clashes, however far one goes from it, if no two of these are foes; and no more need be known of it.
type foes [maxItems][reading.MaxMarks][maxItems]reading.Marks

// newFoes begins with what clashes on the spot and goes back from there.
func newFoes(all items) *foes {
	f := &foes{}
	marks := all.marks()
	for f.grow(all, marks) {
	}
	return f
}

// grow finds more foes by those that are known, and tells whether there are any.
func (f *foes) grow(all items, marks reading.Marks) bool {
	grown := false
	for one := range all {
		for mark := range marks.Numbers() {
			for other := range all {
				found := f.find(all, one, mark, other)
				grown = grown || !f[one][mark][other].Holds(found)
				f[one][mark][other] |= found
			}
		}
	}
	return grown
}

// find finds the marks with which another item is a foe: here, behind the sign that both want, or by what one of them opens.
func (f *foes) find(all items, one, mark, other int) reading.Marks {
	found := clashes(all[one], 1<<mark, all[other])
	if !all[one].ended() && all[one].want == all[other].want {
		found |= f[one+1][mark][other+1]
	}
	for _, opened := range all[one].opened {
		for follow := range all[one].follow(1 << mark).Numbers() {
			found |= f[opened][follow][other]
		}
	}
	for _, opened := range all[other].opened {
		found |= all[other].leading(f[one][mark][opened])
	}
	return found
}

// clashes finds the marks with which another item clashes on the spot.
func clashes(one kind, mark reading.Marks, other kind) reading.Marks {
	switch {
	case one.ended() && other.ended():
		if one.rule != other.rule {
			return mark
		}
	case one.ended():
		if reading.MarkOf(other.want) == mark {
			return reading.AllMarks
		}
	case other.ended():
		return reading.MarkOf(one.want)
	}
	return 0
}

// leading finds the marks of an item of that kind that make one of the marks follow its want.
func (k kind) leading(marks reading.Marks) reading.Marks {
	switch {
	case k.letters.Meets(marks):
		return reading.AllMarks
	case k.through:
		return marks
	}
	return 0
}

// between tells whether an item of one marking is a foe of one of the other.
func (f *foes) between(one, other marking) bool {
	for i, marks := range one {
		for mark := range marks.Numbers() {
			for j, found := range &f[i][mark] {
				if found.Meets(other[j]) {
					return true
				}
			}
		}
	}
	return false
}
