package lex

import "payoff/api"

// curLength is how many bytes a currency has.
const curLength = 3

// Keyword tells whether a word is one of the language's own.
func Keyword(word string) bool {
	_, known := keywords()[word]
	return known
}

// Small tells whether a text is a name for a deal, a value, a parameter, a definition.
func Small(s string) bool {
	return isName(s, isSmall) && !Keyword(s)
}

// Capital tells whether a text is a name for an observable.
func Capital(s string) bool {
	return isName(s, isCapital)
}

// Currency tells whether a text is a currency's.
func Currency(s string) bool {
	return len(s) == curLength && isCapital(s[0]) && isCapital(s[1]) && isCapital(s[2])
}

// keywords are made anew for each call, as no map may stand at package level.
func keywords() map[string]struct{} {
	return map[string]struct{}{
		"deal": {}, "start": {}, "holidays": {}, "observe": {}, "def": {}, "contract": {},
		"zero": {}, "pay": {}, "give": {}, "scale": {}, "delay": {}, "at": {}, "if": {}, "else": {},
		"let": {}, "in": {}, "for": {}, "every": {}, "from": {}, "to": {}, "step": {},
		"following": {}, "modified": {}, "preceding": {},
		"accumulate": {}, "by": {}, "then": {}, "when": {}, "within": {}, "and": {},
		"true": {}, "false": {}, "day": {}, "min": {}, "max": {}, "abs": {}, "ratio": {}, "thirty": {},
		"down": {}, "floor": {}, "ceil": {}, "half_up": {}, "half_even": {},
	}
}

// isName tells whether s, whole, is a name of such letters.
func isName(s string, isLetter func(byte) bool) bool {
	if s == "" || !isLetter(s[0]) {
		return false
	}
	_, e := nameError(s, isLetter)
	return e == api.OK
}

// nameError tells what is wrong with a run that begins with such a letter, and where in it.
func nameError(run string, isLetter func(byte) bool) (int, api.Errno) {
	for i := range len(run) {
		if c := run[i]; !isLetter(c) && !isDigit(c) && c != '_' {
			return i, api.ErrChar
		}
	}
	if len(run) > api.MaxName {
		return 0, api.ErrLong
	}
	return 0, api.OK
}
