package lex_test

import (
	"slices"
	"strings"
	"testing"

	"payoff/api"
	"payoff/lex"
)

func word(text string, at int) api.Token { return api.Token{Kind: api.TokWord, Text: text, At: at} }

func upper(text string, at int) api.Token { return api.Token{Kind: api.TokUpper, Text: text, At: at} }

func mark(text string, at int) api.Token { return api.Token{Kind: api.TokMark, Text: text, At: at} }

func number(text string, at, n int) api.Token {
	return api.Token{Kind: api.TokNumber, Text: text, At: at, Num: n}
}

func date(text string, at, y, m, d int) api.Token {
	return api.Token{Kind: api.TokDate, Text: text, At: at, Date: api.Date{Y: y, M: m, D: d}}
}

func tenor(text string, at, n, unit int) api.Token {
	return api.Token{Kind: api.TokTenor, Text: text, At: at, Ten: api.Tenor{N: n, Unit: unit}}
}

// wantScan holds Scan(text) against tokens, a place and an error.
func wantScan(t *testing.T, text string, place int, e api.Errno, want ...api.Token) {
	t.Helper()
	got, at, err := lex.Scan(text)
	if !slices.Equal(got, want) || at != place || err != e {
		t.Errorf("Scan(%.60q): %.200v, %d, %d, want %.200v, %d, %d", text, got, at, err, want, place, e)
	}
}

func TestExample1(t *testing.T) {
	wantScan(t, "pay(EUR, 100)", 0, api.OK,
		word("pay", 0), mark("(", 3), upper("EUR", 4), mark(",", 7), number("100", 9, 100), mark(")", 12))
}

func TestExample2(t *testing.T) {
	wantScan(t, "2000-02-29", 0, api.OK, date("2000-02-29", 0, 2000, 2, 29))
	wantScan(t, "2001-02-29", 0, api.ErrNumber)
	wantScan(t, "2000-01-02x", 5, api.ErrNumber, number("2000", 0, 2000), mark("-", 4))
	wantScan(t, "2000-1-2", 0, api.OK,
		number("2000", 0, 2000), mark("-", 4), number("1", 5, 1), mark("-", 6), number("2", 7, 2))
	wantScan(t, "1899-12-31", 0, api.ErrNumber)
}

func TestExample3(t *testing.T) {
	wantScan(t, "3m", 0, api.OK, tenor("3m", 0, 3, api.UnitMonth))
	for _, text := range []string{"1000d", "0d", "03m", "3mm", "3M", "3_", "00", "9223372036854775808"} {
		wantScan(t, text, 0, api.ErrNumber)
	}
	wantScan(t, "0", 0, api.OK, number("0", 0, 0))
	wantScan(t, "9223372036854775807", 0, api.OK, number("9223372036854775807", 0, 1<<63-1))
}

func TestExample4(t *testing.T) {
	wantScan(t, "a1_b", 0, api.OK, word("a1_b", 0))
	wantScan(t, "aB", 1, api.ErrChar)
	wantScan(t, "AB1_", 0, api.OK, upper("AB1_", 0))
	wantScan(t, "Ab", 1, api.ErrChar)
	wantScan(t, "_a", 0, api.ErrChar)
	wantScan(t, strings.Repeat("w", 32), 0, api.ErrLong)
	wantScan(t, strings.Repeat("w", 31)+"W", 31, api.ErrChar)
}

func TestExample5(t *testing.T) {
	wantScan(t, "x..y", 0, api.OK, word("x", 0), mark("..", 1), word("y", 3))
	wantScan(t, "1..3", 0, api.OK, number("1", 0, 1), mark("..", 1), number("3", 3, 3))
	wantScan(t, "a.b", 1, api.ErrChar, word("a", 0))
	wantScan(t, "a<=b", 0, api.OK, word("a", 0), mark("<=", 1), word("b", 3))
	wantScan(t, "a< =b", 0, api.OK, word("a", 0), mark("<", 1), mark("=", 3), word("b", 4))
	wantScan(t, "a&b", 1, api.ErrChar, word("a", 0))
	wantScan(t, "!==", 0, api.OK, mark("!=", 0), mark("=", 2))
}

func TestExample6(t *testing.T) {
	wantScan(t, "# all\n  x # end", 0, api.OK, word("x", 8))
	wantScan(t, "\"", 0, api.ErrChar)
}

func TestExample7(t *testing.T) {
	for _, x := range []struct {
		s                        string
		small, capital, currency bool
	}{
		{"deal", false, false, false},
		{"deals", true, false, false},
		{"", false, false, false},
		{"a b", false, false, false},
		{"A", false, true, false},
		{"A_1", false, true, false},
		{"EU", false, true, false},
		{"EU1", false, true, false},
		{"EURO", false, true, false},
		{"EUR", false, true, true},
	} {
		wantNames(t, x.s, x.small, x.capital, x.currency)
	}
}

func wantNames(t *testing.T, s string, small, capital, currency bool) {
	t.Helper()
	if lex.Small(s) != small || lex.Capital(s) != capital || lex.Currency(s) != currency {
		t.Errorf("%.60q: Small %v, Capital %v, Currency %v, want %v, %v, %v",
			s, lex.Small(s), lex.Capital(s), lex.Currency(s), small, capital, currency)
	}
}
