package asm

import (
	"payoff/api"
	"payoff/num"
)

// The lines that are no instructions, in the order in which they come.
const (
	lineNames = iota
	lineCurs
	linePool
	lineHorizon
	lineCells
	lineSlots
	lineStack
	lineDay
)

// lineRule is what is told of such a line: the word that it begins with, and whether it may be left out.
type lineRule struct {
	word     string
	optional bool
}

// lines has a rule for each of them.
var lines = [...]lineRule{
	lineNames:   {word: "names", optional: true},
	lineCurs:    {word: "curs", optional: true},
	linePool:    {word: "pool", optional: true},
	lineHorizon: {word: "horizon"},
	lineCells:   {word: "cells"},
	lineSlots:   {word: "slots"},
	lineStack:   {word: "stack"},
	lineDay:     {word: "day", optional: true},
}

// lineOf tells which line begins with a word, if it is not an instruction's.
func lineOf(word string) (int, bool) {
	for line, rule := range lines {
		if rule.word == word {
			return line, true
		}
	}
	return 0, false
}

// modes has a word for each rounding.
var modes = [...]string{
	api.Down:     "down",
	api.Floor:    "floor",
	api.Ceil:     "ceil",
	api.HalfUp:   "half_up",
	api.HalfEven: "half_even",
}

// modeOf tells which rounding a word says.
func modeOf(word string) (int, bool) {
	for mode, name := range modes {
		if name == word {
			return mode, true
		}
	}
	return 0, false
}

// appendWords puts a line's words behind others.
func appendWords(words []string, line string) []string {
	begin, open := 0, false
	for at, r := range line {
		if isOfWord(r) {
			if !open {
				begin, open = at, true
			}
			continue
		}
		if open {
			words = append(words, line[begin:at])
			open = false
		}
		if r == ';' {
			break
		}
	}
	if open {
		words = append(words, line[begin:])
	}
	return words
}

// isOfWord: a byte that is part of no rune comes as the rune that replaces it, and is of a word like any other.
func isOfWord(r rune) bool {
	return r != ' ' && r != '\t' && r != '\r' && r != ';'
}

// valueOf reads a value. What num writes without places is just what a value may look like.
func valueOf(word string) (int, bool) {
	v, e := num.Parse(word, 0)
	return v, e == api.OK
}

// numberOf reads a number.
func numberOf(word string) (int, bool) {
	v, ok := valueOf(word)
	return v, ok && v >= 0
}

// valueText is what valueOf reads.
func valueText(v int) string {
	// Without places there is no error.
	text, _ := num.Text(v, 0)
	return text
}
