package reading

import "shift/fault"

// MaxWord is how many bytes a word may have.
const MaxWord = 24

type wordReader struct {
	core
}

// ReadWord reads a word, or tells why the text is none.
func ReadWord(text string) (string, error) {
	r := wordReader{core{kind: "word", text: text}}
	if err := r.within(MaxWord); err != nil {
		return "", err
	}
	word := r.run(MaxWord, IsLetter)
	if !r.ended() {
		return "", r.wrong(r.at, fault.Letter)
	}
	return word, nil
}
