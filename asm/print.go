package asm

import (
	"strings"

	"payoff/api"
	"payoff/code"
)

// textOf tells a canonical program's text.
func textOf(p api.Program) string {
	t := &strings.Builder{}
	writeList(t, lineNames, p.Names)
	writeList(t, lineCurs, p.Curs)
	writeList(t, linePool, valueTexts(p.Pool))
	writeNumber(t, lineHorizon, p.Horizon)
	writeNumber(t, lineCells, p.Cells)
	writeNumber(t, lineSlots, p.Slots)
	writeNumber(t, lineStack, p.Stack)
	for _, s := range p.Days {
		writeNumber(t, lineDay, s.Day)
		for _, i := range s.Code {
			// A canonical program has all that its code names.
			words, _ := instrWords(p, i)
			t.WriteString("  ")
			writeWords(t, words)
		}
	}
	return t.String()
}

// writeList leaves out the line of an empty list.
func writeList(t *strings.Builder, line int, list []string) {
	if len(list) == 0 {
		return
	}
	t.WriteString(lines[line].word)
	t.WriteByte(' ')
	writeWords(t, list)
}

func writeNumber(t *strings.Builder, line, n int) {
	writeWords(t, []string{lines[line].word, valueText(n)})
}

func writeWords(t *strings.Builder, words []string) {
	t.WriteString(strings.Join(words, " "))
	t.WriteByte('\n')
}

func valueTexts(list []int) []string {
	var texts []string
	for _, v := range list {
		texts = append(texts, valueText(v))
	}
	return texts
}

// instrWords tells a valid instruction's words, if the program has what it names.
func instrWords(p api.Program, i api.Instr) ([]string, bool) {
	// A valid instruction has a name, and a number of operands.
	name, _ := code.Name(i.Op)
	operands, _ := code.Operands(i.Op)
	first, told := operandText(p, i)
	words := []string{name, first, valueText(i.B)}
	return words[:1+operands], told
}

// operandText tells the first operand's word, if the program has what it names.
func operandText(p api.Program, i api.Instr) (string, bool) {
	switch i.Op {
	case api.OpConst:
		v, has := at(p.Pool, i.A)
		return valueText(v), has
	case api.OpObs:
		return at(p.Names, i.A)
	case api.OpFlow:
		return at(p.Curs, i.A)
	case api.OpRatio:
		return modes[i.A], true
	}
	return valueText(i.A), true
}

// at tells what a list has at a place of 0 or more.
func at[T any](list []T, place int) (T, bool) {
	if place >= len(list) {
		var none T
		return none, false
	}
	return list[place], true
}
