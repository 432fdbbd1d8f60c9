package reading

import (
	"strconv"
	"strings"
)

// Text writes a table down as ReadTable takes it apart. It must have at most MaxStates states: there are no numbers for more.
func (t *Table) Text() string {
	var text strings.Builder
	for number, state := range t.States {
		if number > 0 {
			text.WriteByte(';')
		}
		state.write(&text)
	}
	return text.String()
}

func (s State) write(text *strings.Builder) {
	for i, item := range s.Items {
		if i > 0 {
			text.WriteByte(',')
		}
		item.write(text)
	}
	text.WriteByte('>')
	for _, edge := range s.Edges {
		edge.write(text)
	}
}

func (i Item) write(text *strings.Builder) {
	if i.Rule == Star {
		text.WriteByte('*')
	} else {
		text.WriteString(strconv.Itoa(i.Rule))
	}
	text.WriteString(strconv.Itoa(i.Place))
	for number := range i.Marks.Numbers() {
		text.WriteByte(markByte(number))
	}
}

func (e Edge) write(text *strings.Builder) {
	digits := strconv.Itoa(e.To)
	text.WriteByte(e.Sign)
	text.WriteString(strings.Repeat("0", numberSize-len(digits)))
	text.WriteString(digits)
}

// markByte is the mark that has a number.
func markByte(number int) byte {
	if number == 0 {
		return End
	}
	return 'a' + byte(number-1)
}
