package asm

import (
	"slices"
	"strings"

	"payoff/api"
	"payoff/code"
	"payoff/lex"
)

// reader reads a program's text, line by line.
type reader struct {
	rest    string // what stands behind the lines that were read
	count   int    // how many lines were read
	next    int    // the first of the lines that may come
	program api.Program
	// Where each part of the lists stands first: they may be long, and the code may name them often.
	names, curs map[string]int
	pool        map[int]int
}

// readLines reads all lines; with an error the line's number.
func (r *reader) readLines() (int, api.Errno) {
	var words []string
head:
	for r.rest != "" {
		words = appendWords(words[:0], r.cutLine())
		if len(words) == 0 {
			goto head
		}
		if !r.take(words) {
			return r.count, api.ErrLine
		}
	}
	if !r.mayCome(len(lines)) {
		return r.count + 1, api.ErrLine
	}
	return 0, api.OK
}

// cutLine takes a line off the text. There is no line behind a line feed at the text's end.
func (r *reader) cutLine() string {
	line, rest, _ := strings.Cut(r.rest, "\n")
	r.rest = rest
	r.count++
	return line
}

// mayCome tells whether a line may come now: none is passed over that must be there. The text's end counts as the line behind all.
func (r *reader) mayCome(line int) bool {
	for passed := r.next; passed < line; passed++ {
		if !lines[passed].optional {
			return false
		}
	}
	return line >= r.next
}

// take reads a line that says something, and tells whether it may stand there.
func (r *reader) take(words []string) bool {
	line, known := lineOf(words[0])
	if !known {
		return r.takeInstr(words)
	}
	if !r.mayCome(line) {
		return false
	}
	// A day may come behind a day.
	r.next = min(line+1, lineDay)
	if line >= lineHorizon {
		return r.takeNumber(line, words[1:])
	}
	return r.takeList(line, words[1:])
}

func (r *reader) takeList(line int, words []string) bool {
	right := false
	switch line {
	case lineNames:
		r.program.Names, right = textsOf(words, lex.Capital)
		r.names = firstPlaces(r.program.Names)
	case lineCurs:
		r.program.Curs, right = textsOf(words, lex.Currency)
		r.curs = firstPlaces(r.program.Curs)
	case linePool:
		r.program.Pool, right = valuesOf(words)
		r.pool = firstPlaces(r.program.Pool)
	}
	return right && len(words) > 0
}

func (r *reader) takeNumber(line int, words []string) bool {
	if len(words) != 1 {
		return false
	}
	n, right := numberOf(words[0])
	switch line {
	case lineHorizon:
		r.program.Horizon = n
	case lineCells:
		r.program.Cells = n
	case lineSlots:
		r.program.Slots = n
	case lineStack:
		r.program.Stack = n
	case lineDay:
		r.program.Days = append(r.program.Days, api.Segment{Day: n})
	}
	return right
}

// takeInstr reads an instruction, which stands behind a day's line.
func (r *reader) takeInstr(words []string) bool {
	last := len(r.program.Days) - 1
	if last < 0 {
		return false
	}
	i, right := r.instrOf(words)
	if right {
		day := &r.program.Days[last]
		day.Code = append(day.Code, i)
	}
	return right
}

func (r *reader) instrOf(words []string) (api.Instr, bool) {
	op, e := code.Find(words[0])
	if e != api.OK {
		return api.Instr{}, false
	}
	// What has a name has a number of operands.
	operands, _ := code.Operands(op)
	if len(words) != 1+operands {
		return api.Instr{}, false
	}
	i, right := api.Instr{Op: op}, true
	if operands > 0 {
		i.A, right = r.operandOf(op, words[1])
	}
	if operands > 1 && right {
		i.B, right = numberOf(words[2])
	}
	return i, right && code.Valid(i) == api.OK
}

// operandOf reads an instruction's first operand.
func (r *reader) operandOf(op int, word string) (int, bool) {
	switch op {
	case api.OpConst:
		v, right := valueOf(word)
		place, known := r.pool[v]
		return place, right && known
	case api.OpObs:
		place, known := r.names[word]
		return place, known
	case api.OpFlow:
		place, known := r.curs[word]
		return place, known
	case api.OpRatio:
		return modeOf(word)
	}
	return numberOf(word)
}

// textsOf tells words as a list of their own, and whether each is such a text.
func textsOf(words []string, is func(string) bool) ([]string, bool) {
	stray := slices.ContainsFunc(words, func(word string) bool { return !is(word) })
	return slices.Clone(words), !stray
}

func valuesOf(words []string) ([]int, bool) {
	var list []int
	for _, word := range words {
		v, right := valueOf(word)
		if !right {
			return nil, false
		}
		list = append(list, v)
	}
	return list, true
}

// firstPlaces tells where each part of a list stands first.
func firstPlaces[T comparable](list []T) map[T]int {
	places := make(map[T]int)
	for place, part := range list {
		if _, known := places[part]; !known {
			places[part] = place
		}
	}
	return places
}

// ownTexts gives a program texts of its own: pieces of the text that was read would keep all of it.
func ownTexts(p api.Program) api.Program {
	for _, list := range [...][]string{p.Names, p.Curs} {
		for at, s := range list {
			list[at] = strings.Clone(s)
		}
	}
	return p
}
