package lex

import (
	"strconv"

	"payoff/api"
	"payoff/cal"
)

const (
	// dateForm has a 0 where a date has a digit.
	dateForm = "0000-00-00"
	// mostUnits is the greatest number of units that a tenor has: three digits.
	mostUnits = 999
)

// beginsWithDate tells whether a date is cut off rest, be it one that exists or not.
func beginsWithDate(rest string) bool {
	if len(rest) < len(dateForm) {
		return false
	}
	for i := range len(dateForm) {
		if !fitsDate(rest[i], dateForm[i]) {
			return false
		}
	}
	return len(rest) == len(dateForm) || !isOfRun(rest[len(dateForm)])
}

func fitsDate(c, form byte) bool {
	if form == '0' {
		return isDigit(c)
	}
	return c == form
}

// dateToken reads a piece of a date's form.
func dateToken(piece string) (api.Token, api.Errno) {
	date, e := cal.Parse(piece)
	if e != api.OK {
		return api.Token{}, api.ErrNumber
	}
	return api.Token{Kind: api.TokDate, Text: piece, Date: date}, api.OK
}

// digitToken reads a run that begins with a digit: a number, or a tenor.
func digitToken(run string) (api.Token, api.Errno) {
	digits, unit := run, unitOf(run[len(run)-1])
	if unit != 0 {
		digits = run[:len(run)-1]
	}
	n, ok := numberOf(digits)
	switch {
	case !ok:
		return api.Token{}, api.ErrNumber
	case unit == 0:
		return api.Token{Kind: api.TokNumber, Text: run, Num: n}, api.OK
	case n < 1 || n > mostUnits:
		return api.Token{}, api.ErrNumber
	default:
		return api.Token{Kind: api.TokTenor, Text: run, Ten: api.Tenor{N: n, Unit: unit}}, api.OK
	}
}

// unitOf tells the unit that a letter stands for; 0, if it stands for none.
func unitOf(c byte) int {
	switch c {
	case 'd':
		return api.UnitDay
	case 'w':
		return api.UnitWeek
	case 'm':
		return api.UnitMonth
	case 'y':
		return api.UnitYear
	}
	return 0
}

// numberOf reads a piece of at least one byte; false, if it is not a number in its one form.
func numberOf(piece string) (int, bool) {
	if piece[0] == '0' && len(piece) > 1 {
		return 0, false
	}
	for i := range len(piece) {
		if !isDigit(piece[i]) {
			return 0, false
		}
	}
	n, err := strconv.Atoi(piece)
	return n, err == nil
}

// markToken reads the longest mark that rest begins with.
func markToken(rest string) (api.Token, api.Errno) {
	length := 1
	if beginsWithPair(rest) {
		length = 2
	} else if !isMark(rest[0]) {
		return api.Token{}, api.ErrChar
	}
	return api.Token{Kind: api.TokMark, Text: rest[:length]}, api.OK
}

// beginsWithPair tells whether rest begins with a mark of two bytes.
func beginsWithPair(rest string) bool {
	if len(rest) < 2 {
		return false
	}
	switch rest[:2] {
	case "..", "<=", ">=", "==", "!=", "&&", "||":
		return true
	}
	return false
}

// isMark tells whether a byte is a mark by itself.
func isMark(c byte) bool {
	switch c {
	case '(', ')', '{', '}', '[', ']', ',', ';', '=', '+', '-', '*', '/', '%', '<', '>', '!', '?', ':':
		return true
	}
	return false
}
