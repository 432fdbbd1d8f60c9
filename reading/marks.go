package reading

import (
	"iter"
	"math/bits"
)

// End is the mark of a word's end.
const End = '$'

// MaxMarks is how many marks there are: End and the letters.
const MaxMarks = 27

// Marks is a set of marks, one bit for each; a mark that is above another has the higher bit.
type Marks uint32

// AllMarks is the set of all marks.
const AllMarks Marks = 1<<MaxMarks - 1

// MarkOf is the set of one mark. What is no mark (a name, say) makes the empty set.
func MarkOf(b byte) Marks {
	switch {
	case b == End:
		return 1
	case IsLetter(b):
		return 2 << (b - 'a')
	}
	return 0
}

// Holds tells whether all of the others are in the set.
func (m Marks) Holds(others Marks) bool { return m&others == others }

// Meets tells whether one of the others is in the set.
func (m Marks) Meets(others Marks) bool { return m&others != 0 }

// Numbers goes through the numbers of the marks, rising: that of End is 0, and the letters have those from 1 on.
func (m Marks) Numbers() iter.Seq[int] {
	return func(yield func(int) bool) {
		for rest := m; rest != 0; rest &= rest - 1 {
			if !yield(bits.TrailingZeros32(uint32(rest))) {
				return
			}
		}
	}
}

func isMark(b byte) bool { return b == End || IsLetter(b) }

// risingMarks is the set of a text of marks, if there are any and they rise: then each one's bit is above all that is in the set so far.
func risingMarks(text string) (Marks, bool) {
	set := Marks(0)
	for i := range len(text) {
		mark := MarkOf(text[i])
		if mark <= set {
			return 0, false
		}
		set |= mark
	}
	return set, set != 0
}
