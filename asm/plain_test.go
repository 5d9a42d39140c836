package asm_test

import (
	"fmt"
	"math/big"
	"regexp"
	"slices"
	"strings"
	"testing"

	"payoff/api"
	"payoff/asm"
	"payoff/code"
	"payoff/image"
)

// A plain reading of the chapter, against which the calls are held.

var (
	plainName     = regexp.MustCompile(`\A[A-Z][A-Z0-9_]{0,30}\z`)
	plainCurrency = regexp.MustCompile(`\A[A-Z]{3}\z`)
	plainDecimal  = regexp.MustCompile(`\A(0|-?[1-9][0-9]*)\z`)
)

// plainModes: the roundings' words, by their numbers.
var plainModes = []string{"down", "floor", "ceil", "half_up", "half_even"}

// plainOperands: what the operands of an instruction are: a value, a number, an observable's name, a currency, a mode.
var plainOperands = map[string]string{
	"const": "v", "bool": "n", "obs": "on", "load": "n", "store": "n", "keep": "n", "get": "n", "ratio": "m", "jump": "n", "zero": "n", "flow": "c",
}

// plainNext: which lines may stand behind a line, each told by the letter of its kind; "" is the text's beginning.
var plainNext = map[string]string{
	"": "ncph", "n": "cph", "c": "ph", "p": "h", "h": "l", "l": "s", "s": "t", "t": "d", "d": "di", "i": "di",
}

// plainKinds: the letters of the lines' words; all other lines are instructions.
var plainKinds = map[string]string{
	"names": "n", "curs": "c", "pool": "p", "horizon": "h", "cells": "l", "slots": "s", "stack": "t", "day": "d",
}

func plainValue(word string) (int, bool) {
	if !plainDecimal.MatchString(word) {
		return 0, false
	}
	v, ok := new(big.Int).SetString(word, 10)
	return int(v.Int64()), ok && v.IsInt64()
}

func plainNumber(word string) (int, bool) {
	v, ok := plainValue(word)
	return v, ok && !strings.HasPrefix(word, "-")
}

// plainLines: a text's lines.
func plainLines(text string) []string {
	list := strings.Split(text, "\n")
	if list[len(list)-1] == "" {
		return list[:len(list)-1]
	}
	return list
}

// plainWords: a line's words.
func plainWords(line string) []string {
	line, _, _ = strings.Cut(line, ";")
	var list []string
	for word := range strings.SplitSeq(strings.NewReplacer("\t", " ", "\r", " ").Replace(line), " ") {
		if word != "" {
			list = append(list, word)
		}
	}
	return list
}

func plainList(words []string, form *regexp.Regexp) ([]string, bool) {
	for _, word := range words {
		if !form.MatchString(word) {
			return nil, false
		}
	}
	return words, len(words) > 0
}

// plainInstr: the instruction that words say in a program.
func plainInstr(p api.Program, words []string) (api.Instr, bool) {
	op, e := code.Find(words[0])
	kinds := plainOperands[words[0]]
	if e != api.OK || len(words) != 1+len(kinds) {
		return api.Instr{}, false
	}
	operands := []int{0, 0}
	for k, kind := range kinds {
		word, ok := words[k+1], true
		switch kind {
		case 'v':
			operands[k], ok = plainValue(word)
			operands[k], ok = slices.Index(p.Pool, operands[k]), ok && slices.Contains(p.Pool, operands[k])
		case 'n':
			operands[k], ok = plainNumber(word)
		case 'o':
			operands[k] = slices.Index(p.Names, word)
		case 'c':
			operands[k] = slices.Index(p.Curs, word)
		case 'm':
			operands[k] = slices.Index(plainModes, word)
		}
		if !ok || operands[k] < 0 {
			return api.Instr{}, false
		}
	}
	i := api.Instr{Op: op, A: operands[0], B: operands[1]}
	return i, code.Valid(i) == api.OK
}

// plainLine puts what a line of a kind says into a program.
func plainLine(p *api.Program, kind string, words []string) bool {
	ok := false
	switch kind {
	case "n":
		p.Names, ok = plainList(words[1:], plainName)
	case "c":
		p.Curs, ok = plainList(words[1:], plainCurrency)
	case "p":
		_, ok = plainList(words[1:], plainDecimal)
		for _, word := range words[1:] {
			v, within := plainValue(word)
			p.Pool, ok = append(p.Pool, v), ok && within
		}
	case "i":
		var i api.Instr
		i, ok = plainInstr(*p, words)
		p.Days[len(p.Days)-1].Code = append(p.Days[len(p.Days)-1].Code, i)
	default:
		if len(words) != 2 {
			return false
		}
		n, isNumber := plainNumber(words[1])
		ok = isNumber
		switch kind {
		case "h":
			p.Horizon = n
		case "l":
			p.Cells = n
		case "s":
			p.Slots = n
		case "t":
			p.Stack = n
		case "d":
			p.Days = append(p.Days, api.Segment{Day: n})
		}
	}
	return ok
}

func plainParse(text string) (api.Program, int, api.Errno) {
	if len(text) > 16777216 {
		return api.Program{}, 0, api.ErrLong
	}
	var p api.Program
	ahead, list := "", plainLines(text)
	for at, line := range list {
		words := plainWords(line)
		if len(words) == 0 {
			continue
		}
		kind, known := plainKinds[words[0]]
		if !known {
			kind = "i"
		}
		if !strings.Contains(plainNext[ahead], kind) || !plainLine(&p, kind, words) {
			return api.Program{}, at + 1, api.ErrLine
		}
		ahead = kind
	}
	if ahead == "" || !strings.Contains("tdi", ahead) {
		return api.Program{}, len(list) + 1, api.ErrLine
	}
	if image.Canon(p) != api.OK {
		return api.Program{}, 0, api.ErrCanon
	}
	return p, 0, api.OK
}

func plainPrintInstr(p api.Program, i api.Instr) (string, api.Errno) {
	if code.Valid(i) != api.OK {
		return "", api.ErrOp
	}
	name, _ := code.Name(i.Op)
	switch {
	case i.Op == api.OpConst && i.A < len(p.Pool):
		return fmt.Sprintf("const %d", p.Pool[i.A]), api.OK
	case i.Op == api.OpObs && i.A < len(p.Names):
		return fmt.Sprintf("obs %s %d", p.Names[i.A], i.B), api.OK
	case i.Op == api.OpFlow && i.A < len(p.Curs):
		return fmt.Sprintf("flow %s", p.Curs[i.A]), api.OK
	case strings.Contains(" const obs flow ", " "+name+" "):
		return "", api.ErrRange
	case i.Op == api.OpRatio:
		return "ratio " + plainModes[i.A], api.OK
	case plainOperands[name] == "n":
		return fmt.Sprintf("%s %d", name, i.A), api.OK
	}
	return name, api.OK
}

func plainPrint(p api.Program) (string, api.Errno) {
	if image.Canon(p) != api.OK {
		return "", api.ErrCanon
	}
	var b strings.Builder
	if len(p.Names) > 0 {
		fmt.Fprintf(&b, "names %s\n", strings.Join(p.Names, " "))
	}
	if len(p.Curs) > 0 {
		fmt.Fprintf(&b, "curs %s\n", strings.Join(p.Curs, " "))
	}
	if len(p.Pool) > 0 {
		fmt.Fprintf(&b, "pool %s\n", strings.Trim(fmt.Sprint(p.Pool), "[]"))
	}
	fmt.Fprintf(&b, "horizon %d\ncells %d\nslots %d\nstack %d\n", p.Horizon, p.Cells, p.Slots, p.Stack)
	for _, s := range p.Days {
		fmt.Fprintf(&b, "day %d\n", s.Day)
		for _, i := range s.Code {
			text, _ := plainPrintInstr(p, i)
			fmt.Fprintf(&b, "  %s\n", text)
		}
	}
	return b.String(), api.OK
}

// holdPrint holds Print against the plain reading, and Parse and the image against what Print has written.
func holdPrint(t *testing.T, p api.Program) {
	t.Helper()
	text, e := plainPrint(p)
	wantPrint(t, p, text, e)
	if e != api.OK {
		return
	}
	wantParse(t, text, p)
	back, _, _ := asm.Parse(text)
	wantPrint(t, back, text, api.OK)
	first, _ := image.Encode(p)
	second, e := image.Encode(back)
	if e != api.OK || !slices.Equal(first, second) {
		t.Errorf("the image of what was read back is another one: %q", shown(text))
	}
}

// holdParse holds Parse against the plain reading, and Print against what Parse has taken; it tells Parse's error.
func holdParse(t *testing.T, text string) api.Errno {
	t.Helper()
	p, line, e := plainParse(text)
	if e != api.OK {
		wantRefused(t, text, line, e)
		return e
	}
	wantParse(t, text, p)
	holdPrint(t, p)
	return e
}
