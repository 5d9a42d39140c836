package desk

import (
	"slices"
	"strings"

	"payoff/api"
	"payoff/lex"
	"payoff/num"
)

const (
	maxLine   = 200 // bytes of a line
	maxDigits = 9   // of a number in a line
)

// What a word of a form may stand for, beside itself. Those up to aFrozen must be there.
const (
	aText    = "FILE"
	aTable   = "T"
	aProgram = "P"
	aMachine = "M"
	aFrozen  = "Z"
	aName    = "NAME"
	anObs    = "OBS"
	aNumber  = "NUMBER"
	aPair    = "OBS=VALUE"
)

// order: what a line asks for. That of a line without a command does nothing.
type order struct {
	command
	said
}

// said: what a line's words say, those of each sort in their order.
type said struct {
	things  []thing
	names   []string // of what is made, or is the book's; observables
	numbers []int
	pairs   []api.Pair
	words   []string // that stand for themselves
}

// thing: what a line asks to be there.
type thing struct{ kind, name string }

// says tells whether a word that stands for itself was there.
func (s said) says(word string) bool { return slices.Contains(s.words, word) }

// read reads a line.
func read(line string) (order, api.Errno) {
	if len(line) > maxLine {
		return order{}, api.ErrLong
	}
	words := wordsOf(line)
	if len(words) == 0 || strings.HasPrefix(words[0], "#") {
		return order{}, api.OK
	}
	c, known := commands[words[0]]
	if !known {
		return order{}, api.ErrCommand
	}
	s, fits := saidBy(words[1:], c.form)
	if !fits {
		return order{}, api.ErrCommand
	}
	return order{c, s}, api.OK
}

// wordsOf cuts a line. It is copied: a name that is kept would keep the whole script.
func wordsOf(line string) []string {
	return strings.FieldsFunc(strings.Clone(line), func(r rune) bool { return r == ' ' })
}

// linesOf cuts a text. A line feed at its very end opens no further line.
func linesOf(text string) []string {
	return strings.Split(strings.TrimSuffix(text, "\n"), "\n")
}

// saidBy tells what words say, if they are of a form. Each part of it takes as many as it can: no word can stand for two parts that follow each other.
func saidBy(words []string, form string) (said, bool) {
	var s said
	for _, part := range strings.Fields(form) {
		part, optional := strings.CutPrefix(part, "[")
		part, many := strings.CutSuffix(strings.TrimSuffix(part, "]"), "..")
		taken := 0
		for taken < len(words) && (taken == 0 || many) && s.take(words[taken], part) {
			taken++
		}
		if taken == 0 && !optional {
			return said{}, false
		}
		words = words[taken:]
	}
	return s, len(words) == 0
}

// take notes what a word says, if it can stand for that part of a form.
func (s *said) take(word, part string) bool {
	switch part {
	case aText, aTable, aProgram, aMachine, aFrozen:
		return takenIf(isName(word), &s.things, thing{part, word})
	case aName:
		return takenIf(isName(word), &s.names, word)
	case anObs:
		return takenIf(lex.Capital(word), &s.names, word)
	case aNumber:
		n, right := numberOf(word)
		return takenIf(right, &s.numbers, n)
	case aPair:
		pair, right := pairOf(word)
		return takenIf(right, &s.pairs, pair)
	}
	return takenIf(word == part, &s.words, word)
}

func takenIf[T any](right bool, list *[]T, part T) bool {
	if right {
		*list = append(*list, part)
	}
	return right
}

// isName leaves out the words that part names from one another.
func isName(word string) bool {
	return lex.Small(word) && word != "as" && word != "on"
}

func numberOf(word string) (int, bool) {
	v, e := num.Parse(word, 0)
	return v, e == api.OK && v >= 0 && len(word) <= maxDigits
}

func valueOf(word string) (int, bool) {
	digits, below := strings.CutPrefix(word, "-")
	v, right := numberOf(digits)
	if below {
		return -v, right && v != 0
	}
	return v, right
}

func pairOf(word string) (api.Pair, bool) {
	name, value, _ := strings.Cut(word, "=")
	v, right := valueOf(value)
	return api.Pair{Name: name, V: v}, right && lex.Capital(name)
}
