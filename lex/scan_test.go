package lex_test

import (
	"math/big"
	"math/rand"
	"regexp"
	"slices"
	"strconv"
	"strings"
	"testing"
	"time"

	"payoff/api"
	"payoff/lex"
)

const mostBytes = 1 << 16

var (
	gapForm    = regexp.MustCompile(`\A(?:[ \t\n\r]|#[^\n]*)*`)
	dateForm   = regexp.MustCompile(`\A([0-9]{4}-[0-9]{2}-[0-9]{2})(?:[^A-Za-z0-9_]|\z)`)
	runForm    = regexp.MustCompile(`\A[A-Za-z0-9_]*`)
	numberForm = regexp.MustCompile(`\A(0|[1-9][0-9]*)\z`)
	tenorForm  = regexp.MustCompile(`\A([1-9][0-9]{0,2})([dwmy])\z`)
	markForm   = regexp.MustCompile(`\A(?:\.\.|<=|>=|==|!=|&&|\|\||[(){}\[\],;=+*/%<>!?:-])`)
	notOfWord  = regexp.MustCompile(`[^a-z0-9_]`)
	notOfUpper = regexp.MustCompile(`[^A-Z0-9_]`)
	unitLetter = "?dwmy"
)

// plainScan cuts a text by the chapter's rules, one after the other.
func plainScan(text string) ([]api.Token, int, api.Errno) {
	if len(text) > mostBytes {
		return nil, 0, api.ErrLong
	}
	var tokens []api.Token
	at := len(gapForm.FindString(text))
	for at < len(text) {
		token, stray, e := plainToken(text[at:])
		if e != api.OK {
			return tokens, at + stray, e
		}
		token.At = at
		tokens = append(tokens, token)
		at += len(token.Text)
		at += len(gapForm.FindString(text[at:]))
	}
	return tokens, 0, api.OK
}

func plainToken(rest string) (api.Token, int, api.Errno) {
	if m := dateForm.FindStringSubmatch(rest); m != nil {
		d, err := time.Parse(time.DateOnly, m[1])
		if err != nil || d.Year() < 1900 || d.Year() > 2199 {
			return api.Token{}, 0, api.ErrNumber
		}
		return date(m[1], 0, d.Year(), int(d.Month()), d.Day()), 0, api.OK
	}
	run := runForm.FindString(rest)
	switch {
	case run != "" && run[0] >= '0' && run[0] <= '9':
		token, e := plainDigits(run)
		return token, 0, e
	case run != "" && run[0] >= 'a' && run[0] <= 'z':
		return plainName(word(run, 0), notOfWord)
	case run != "" && run[0] >= 'A' && run[0] <= 'Z':
		return plainName(upper(run, 0), notOfUpper)
	}
	if m := markForm.FindString(rest); m != "" {
		return mark(m, 0), 0, api.OK
	}
	return api.Token{}, 0, api.ErrChar
}

func plainDigits(run string) (api.Token, api.Errno) {
	if m := tenorForm.FindStringSubmatch(run); m != nil {
		n, _ := strconv.Atoi(m[1])
		return tenor(run, 0, n, strings.Index(unitLetter, m[2])), api.OK
	}
	// More digits than these are beyond 64 bits, and slow to read as a number without bounds.
	if numberForm.MatchString(run) && len(run) < 100 {
		if n, _ := new(big.Int).SetString(run, 10); n.IsInt64() {
			return number(run, 0, int(n.Int64())), api.OK
		}
	}
	return api.Token{}, api.ErrNumber
}

func plainName(token api.Token, not *regexp.Regexp) (api.Token, int, api.Errno) {
	if m := not.FindStringIndex(token.Text); m != nil {
		return api.Token{}, m[0], api.ErrChar
	}
	if len(token.Text) > 31 {
		return api.Token{}, 0, api.ErrLong
	}
	return token, 0, api.OK
}

// holdScan holds Scan against plainScan at a text, and what it answers against P604.
func holdScan(t *testing.T, text string) bool {
	t.Helper()
	got, at, e := lex.Scan(text)
	want, wantAt, wantE := plainScan(text)
	if !slices.Equal(got, want) || at != wantAt || e != wantE {
		t.Errorf("Scan(%.80q): %.200v, %d, %d, want %.200v, %d, %d", text, got, at, e, want, wantAt, wantE)
		return false
	}
	return holdGaps(t, text, got, at, e) && holdJoined(t, text, got)
}

// holdGaps: what lies between the tokens are blanks and comments, behind the last one too if all went well.
func holdGaps(t *testing.T, text string, tokens []api.Token, place int, e api.Errno) bool {
	t.Helper()
	behind := 0
	for _, token := range tokens {
		if token.At < behind || !strings.HasPrefix(text[token.At:], token.Text) || !isGap(text[behind:token.At]) {
			t.Errorf("Scan(%.80q): %v does not stand there, or not next", text, token)
			return false
		}
		behind = token.At + len(token.Text)
	}
	if e == api.OK && !isGap(text[behind:]) || e != api.OK && place < behind {
		t.Errorf("Scan(%.80q): more than blanks and comments behind %d", text, behind)
		return false
	}
	return true
}

func isGap(s string) bool { return len(gapForm.FindString(s)) == len(s) }

// holdJoined: the texts with one blank between each two are cut into the same tokens.
func holdJoined(t *testing.T, text string, tokens []api.Token) bool {
	t.Helper()
	joined, moved := "", slices.Clone(tokens)
	for i := range moved {
		moved[i].At = len(joined)
		joined += moved[i].Text
		if i < len(moved)-1 {
			joined += " "
		}
	}
	if len(joined) > mostBytes {
		return true
	}
	again, at, e := lex.Scan(joined)
	if !slices.Equal(again, moved) || at != 0 || e != api.OK {
		t.Errorf("Scan(%.80q) from the tokens of %.80q: %.200v, %d, %d", joined, text, again, at, e)
		return false
	}
	return true
}

// eachText calls f with text and all up to depth pieces behind it, while f is content.
func eachText(text string, pieces []string, depth int, f func(string) bool) bool {
	if !f(text) {
		return false
	}
	for _, p := range pieces {
		if depth > 0 && !eachText(text+p, pieces, depth-1, f) {
			return false
		}
	}
	return true
}

// P601, P604
func TestScanAllShortTexts(t *testing.T) {
	for _, x := range []struct {
		start  string
		pieces []string
		depth  int
	}{
		{"", strings.Split("aB0_.-# \n(", ""), 4},
		{"", strings.Split(".<>=!&| -", ""), 5},
		{"", strings.Split("019dm_-aA ", ""), 4},
		{"3", strings.Split("0dwmyDhsx_ .", ""), 4},
		{"0", strings.Split("019dwmy-", ""), 4},
		{"20", []string{"00", "0", "-", "01", "-02", "-29", "x", " ", "_"}, 5},
		{"2000-0", strings.Split("0129-x_ #.", ""), 5},
		{"x", []string{"#", "\n", "\r", "\t", " ", "x", "\xff", "y"}, 4},
		{"", strings.Split("(){}[],;=+-*/%<>!?:.&|", ""), 3},
	} {
		eachText(x.start, x.pieces, x.depth, func(text string) bool { return holdScan(t, text) })
	}
}

// P601, P604: every byte by itself, and each two of them.
func TestScanAllPairsOfBytes(t *testing.T) {
	for a := range 256 {
		holdScan(t, string([]byte{byte(a)}))
		for b := range 256 {
			if !holdScan(t, string([]byte{byte(a), byte(b)})) {
				return
			}
		}
	}
}

const deal = `# A cap.
deal cap_1 {
  start 2024-02-29; holidays 2024-12-25,1900-01-01, 2199-12-31;
  observe RATE, EUR_USD9;	def f(x, y_2)=x*y_2%3+RATE[-3];` + "\r\n" + `
  contract for d in every 3m from 2024-03-31 to 2025-03-31 modified # each \xff day
    if (RATE>=425&&!(x!=9223372036854775807)||a<b==true) scale(f(1,-2)) pay(EUR, day? 1:0)
    else when(1..3) within 999d zero and give{ pay(USD, ratio(1/2, 12w, 1y, half_even)) };
}`

// P601, P604
func TestScanChangedTexts(t *testing.T) {
	if tokens, _, e := lex.Scan(deal); len(tokens) < 100 || e != api.OK {
		t.Fatalf("%d tokens, %d", len(tokens), e)
	}
	holdScan(t, deal)
	for at := range len(deal) {
		holdScan(t, deal[:at])
		holdScan(t, deal[at:])
		holdScan(t, deal[:at]+deal[at+1:])
		for _, put := range strings.Split("aZ09_-.#\n <=&(\"\x00\x7f\xff", "") {
			if !holdScan(t, deal[:at]+put+deal[at+1:]) || !holdScan(t, deal[:at]+put+deal[at:]) {
				return
			}
		}
	}
}

// P601, P604
func TestScanByChance(t *testing.T) {
	chance := rand.New(rand.NewSource(6))
	pieces := []string{"deal", "x1_", "EUR", "A_", "0", "7", "12", "2000", "2000-02-29", "2001-02-28", "1900-02-29", "3m", "999d", "01", "1w", "y", "..", ".", "<", "<=", "=", "==", "!", "&&", "|", "||", "-", "(", ")", "[", " ", "\t", "\n", "# c\n", "#", "\r", "_", "\x80"}
	for range 100000 {
		text := ""
		for range 1 + chance.Intn(12) {
			text += pieces[chance.Intn(len(pieces))]
			if chance.Intn(2) == 0 {
				text += " "
			}
		}
		if !holdScan(t, text) {
			return
		}
	}
}

// P601: every date of the form, in the years around the calendar's ends and some others.
func TestScanDates(t *testing.T) {
	for _, year := range []string{"0000", "0001", "1582", "1899", "1900", "1901", "1999", "2000", "2001", "2100", "2199", "2200", "9999"} {
		for month := range 100 {
			for day := range 100 {
				text := year + "-" + twoDigits(month) + "-" + twoDigits(day)
				if !holdScan(t, text) || !holdScan(t, "x "+text+";") {
					return
				}
			}
		}
	}
	for year := range 10000 {
		head := strconv.Itoa(10000 + year)[1:]
		holdScan(t, head+"-02-29")
		if !holdScan(t, head+"-12-31") {
			return
		}
	}
}

func twoDigits(n int) string { return strconv.Itoa(100 + n)[1:] }

// P601: all that may stand behind and ahead of a date.
func TestScanAroundDates(t *testing.T) {
	for _, text := range []string{"2024-02-29", "2023-02-29"} {
		for b := range 256 {
			put := string([]byte{byte(b)})
			holdScan(t, text+put)
			holdScan(t, put+text)
			holdScan(t, text+put+text)
			holdScan(t, text[:4]+put+text[5:])
			holdScan(t, text[:7]+put+text[8:])
		}
		for at := range len(text) {
			holdScan(t, text[:at])
			holdScan(t, text[at:])
			holdScan(t, text[:at]+"#"+text[at:])
		}
	}
}

// P601: all numbers and tenors of up to four digits, with all letters behind them.
func TestScanNumbersAndTenors(t *testing.T) {
	for n := range 12000 {
		digits := strconv.Itoa(n)
		for _, behind := range []string{"", "d", "w", "m", "y", "D", "x", "_", "dd", "d1", "-", "m-"} {
			holdScan(t, digits+behind)
			if !holdScan(t, "0"+digits+behind) {
				return
			}
		}
	}
	for c := range 128 {
		holdScan(t, "12"+string(rune(c)))
	}
	for _, text := range []string{
		"9223372036854775806", "9223372036854775807", "9223372036854775808", "09223372036854775807", "9223372036854775807d", "9999999999999999999",
		"18446744073709551615", "18446744073709551616", "18446744073709551617", "36893488147419103232", "1" + strings.Repeat("0", 40), "-9223372036854775808",
		"1e5", "0x10", "1_000", "1.5", "1..5", "1...5", "0b1", "0o7", "00d", "000", "001y", "0_", "99999999999999999999d",
		"18446744073709551617d", "4294967297w", "\u0663", "1\u0663", "\u0663m",
	} {
		holdScan(t, text)
	}
}

// P601: names up to the limit and behind it, with a byte that is none of theirs at each place.
func TestScanNames(t *testing.T) {
	for _, x := range []struct{ letter, other string }{{"a", "A"}, {"z", "Z"}, {"A", "a"}, {"Z", "z"}} {
		for length := 1; length <= 70; length++ {
			name := strings.Repeat(x.letter, length)
			holdScan(t, name)
			holdScan(t, "x "+name+" \"")
			for at := range length {
				for _, put := range []string{x.other, "_", "5", "-", "\xe4"} {
					if !holdScan(t, "Y "+name[:at]+put+name[at+1:]) {
						return
					}
				}
			}
		}
	}
}

// P601
func TestScanOfLongTexts(t *testing.T) {
	for _, piece := range []string{" ", "\n", "#", "# \n", "(", ".", "..", "9", "0", "a", "A", "a ", "2000-01-01", "2000-01-01 ", "1m ", "_", "=", "\xff", "x#\n"} {
		text := strings.Repeat(piece, mostBytes/len(piece)+2)
		for _, length := range []int{mostBytes - 1, mostBytes} {
			holdScanAlone(t, text[:length])
			holdScanAlone(t, text[:length-1]+"$")
		}
		wantScan(t, text[:mostBytes+1], 0, api.ErrLong)
		wantScan(t, strings.Repeat(text, 3), 0, api.ErrLong)
	}
	wantScan(t, strings.Repeat(" ", mostBytes-1)+"x", 0, api.OK, word("x", mostBytes-1))
	wantScan(t, "x"+strings.Repeat(" ", mostBytes), 0, api.ErrLong)
	wantScan(t, " "+strings.Repeat("a", mostBytes-1), 1, api.ErrLong)
	wantScan(t, " "+strings.Repeat("a", mostBytes-2)+"A", mostBytes-1, api.ErrChar)
}

// holdScanAlone leaves out what is too slow for texts of very many tokens.
func holdScanAlone(t *testing.T, text string) {
	t.Helper()
	tokens, at, e := plainScan(text)
	wantScan(t, text, at, e, tokens...)
}

// P601: the tokens ahead of an error are there, whatever the error is.
func TestScanTellsTokensAheadOfAnError(t *testing.T) {
	ahead := []api.Token{word("deal", 0), upper("S", 5), number("7", 7, 7), date("2000-01-01", 9, 2000, 1, 1), tenor("1d", 20, 1, api.UnitDay), mark("<=", 23)}
	for _, x := range []struct {
		wrong string
		stray int
		e     api.Errno
	}{
		{"$", 0, api.ErrChar}, {"_", 0, api.ErrChar}, {"abC", 2, api.ErrChar}, {"ABc", 2, api.ErrChar}, {"&", 0, api.ErrChar},
		{"07", 0, api.ErrNumber}, {"7z", 0, api.ErrNumber}, {"2000-13-01", 0, api.ErrNumber},
		{strings.Repeat("a", 32), 0, api.ErrLong}, {strings.Repeat("A", 32), 0, api.ErrLong},
	} {
		for _, behind := range []string{"", " x", " $", "\n09"} {
			wantScan(t, "deal S 7 2000-01-01 1d <= "+x.wrong+behind, 26+x.stray, x.e, ahead...)
		}
	}
}

// P601: an answer is new memory, its spare room included, and nothing is kept.
func TestScanAnswersNewMemory(t *testing.T) {
	first, _, _ := lex.Scan(deal)
	second, _, _ := lex.Scan(deal)
	first = first[:cap(first)]
	for i := range first {
		first[i] = api.Token{Kind: 99, Text: "spoilt"}
	}
	want, _, _ := plainScan(deal)
	if !slices.Equal(second, want) {
		t.Error("two answers share memory")
	}
	wantScan(t, deal, 0, api.OK, want...)
}
