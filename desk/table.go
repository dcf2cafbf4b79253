package desk

import (
	"strconv"
	"strings"

	"letterlock/api"
	"letterlock/rights"
)

// row is a line that can be asked: its first word, and what is done with the step that its other words tell.
type row struct {
	word   string
	fields string // a letter for each other word: the field of the step that it tells
	do     func(x api.Step)
}

// table tells the lines that a talk knows.
func (t *talk) table() []row {
	return []row{
		{"new", "", func(api.Step) { t.text = "" }},
		{"load", "P", t.load},
		{"grant", "PKRG", t.step(api.SGrant)},
		{"link", "PQKRG", t.step(api.SLink)},
		{"cut", "G", t.step(api.SCut)},
		{"gate", "", t.step(api.SGate)},
		{"call", "PKH", t.call},
		{"value", "PKN", t.value},
		{"hand", "P", t.hand},
		{"kept", "P", t.kept},
		{"log", "", t.log},
		{"cells", "", t.cells},
	}
}

// read tells the step that words tell, but for its kind; false: they are not such a line.
func (r row) read(first string, others []string) (api.Step, bool) {
	var x api.Step
	if first != r.word || len(others) != len(r.fields) {
		return api.Step{}, false
	}
	for i, word := range others {
		if !fill(&x, r.fields[i], word) {
			return api.Step{}, false
		}
	}
	return x, true
}

// fill lets a field of a step be what a word tells; false: the word tells nothing of that sort.
func fill(x *api.Step, field byte, word string) bool {
	if field == 'R' {
		r, ok := rights.Parse(word)
		x.R = r
		return ok
	}
	n, ok := number(word)
	switch field {
	case 'P':
		x.P = int(n)
	case 'Q':
		x.Q = int(n)
	case 'K':
		x.K = int(n)
	case 'H':
		x.H = int(n)
	case 'G':
		x.G = int(n)
	case 'N':
		x.N = n
	}
	return ok
}

// number tells the number that a word is; false: it is none.
func number(word string) (int64, bool) {
	n, err := strconv.ParseInt(word, 10, 64)
	// A number that can be told shorter is told otherwise than it was written: so are +5, 05 and -0.
	if err != nil || strconv.FormatInt(n, 10) != word {
		return 0, false
	}
	return n, true
}

// mostWords is more than any line of the table has.
const mostWords = 7

// wordsOf tells the words of a line, but not those that come when it has too many already: a line may be very long.
func wordsOf(line string) []string {
	var words []string
	rest := strings.TrimLeft(line, " ")
	for rest != "" && len(words) < mostWords {
		word, behind, _ := strings.Cut(rest, " ")
		words = append(words, word)
		rest = strings.TrimLeft(behind, " ")
	}
	return words
}
