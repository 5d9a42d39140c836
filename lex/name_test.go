package lex_test

import (
	"regexp"
	"slices"
	"strings"
	"testing"

	"payoff/lex"
)

// chapterKeywords are the keywords as the chapter has them.
var chapterKeywords = strings.Fields("deal start holidays observe def contract zero pay give scale delay at if else let in for every from to step following modified preceding accumulate by then when within and true false day min max abs ratio thirty down floor ceil half_up half_even")

var (
	smallForm    = regexp.MustCompile(`\A[a-z][a-z0-9_]{0,30}\z`)
	capitalForm  = regexp.MustCompile(`\A[A-Z][A-Z0-9_]{0,30}\z`)
	currencyForm = regexp.MustCompile(`\A[A-Z]{3}\z`)
)

// holdNames holds the four calls on names against the chapter's words.
func holdNames(t *testing.T, s string) {
	t.Helper()
	isKeyword := slices.Contains(chapterKeywords, s)
	if lex.Keyword(s) != isKeyword {
		t.Errorf("Keyword(%.60q): %v", s, !isKeyword)
	}
	wantNames(t, s, smallForm.MatchString(s) && !isKeyword, capitalForm.MatchString(s), currencyForm.MatchString(s))
}

// P602, P603
func TestKeywords(t *testing.T) {
	for _, s := range chapterKeywords {
		holdNames(t, s)
		if !lex.Keyword(s) || lex.Small(s) {
			t.Errorf("%s is no keyword, or a name", s)
		}
		holdNames(t, strings.ToUpper(s))
		holdNames(t, strings.ToUpper(s[:1])+s[1:])
		holdNames(t, s+s)
		for at := range len(s) + 1 {
			holdNames(t, s[:at])
			for b := range 256 {
				put := string([]byte{byte(b)})
				holdNames(t, s[:at]+put+s[at:])
				if at < len(s) {
					holdNames(t, s[:at]+put+s[at+1:])
				}
			}
		}
	}
}

// P602: words that one might take for keywords are names.
func TestWordsThatAreNoKeywords(t *testing.T) {
	for _, s := range strings.Fields("or not up half half_down round unadjusted adjusted none week month year days date holiday observes until while with without mod div sum over end ends deals pays payoff zeros cell accumulates within_ notional const import") {
		if lex.Keyword(s) || !lex.Small(s) {
			t.Errorf("%s is a keyword, or no name", s)
		}
	}
}

// P602, P603
func TestNamesOfAllShortTexts(t *testing.T) {
	eachText("", strings.Split("abAB01_- \n\x00\xff", ""), 4, func(s string) bool {
		holdNames(t, s)
		return !t.Failed()
	})
	eachText("", strings.Split("abcdefghijklmnopqrstuvwxyz", ""), 3, func(s string) bool {
		holdNames(t, s)
		return !t.Failed()
	})
	eachText("EU", []string{"@", "A", "Z", "[", "R", "r", "1", "_", "\u00c4"}, 2, func(s string) bool {
		holdNames(t, s)
		return !t.Failed()
	})
}

// P603
func TestNamesOfManyBytes(t *testing.T) {
	for _, letter := range []string{"a", "z", "A", "Z"} {
		for _, further := range []string{"a", "A", "0", "9", "_", "-"} {
			for _, length := range []int{1, 2, 3, 30, 31, 32, 33, 255, 256, 287, 1 << 17} {
				holdNames(t, letter+strings.Repeat(further, length-1))
			}
		}
	}
	name := strings.Repeat("n", 31)
	holdNames(t, name[:30]+"\n")
	holdNames(t, name+"\n")
	holdNames(t, name[:30]+"N")
	holdNames(t, " "+name[:30])
	holdNames(t, "EUR\n")
	holdNames(t, "EUR ")
	holdNames(t, " EUR")
}
