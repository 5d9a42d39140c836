package tree_test

import (
	"fmt"
	"math/rand"
	"reflect"
	"runtime/debug"
	"slices"
	"strings"
	"testing"

	"payoff/api"
	"payoff/lex"
	"payoff/tree"
)

const mostBytes = 1 << 16

// same tells whether two values are the same, but for lists that are nil and empty.
func same(a, b any) bool { return sameValues(reflect.ValueOf(a), reflect.ValueOf(b)) }

func sameValues(a, b reflect.Value) bool {
	switch a.Kind() {
	case reflect.Struct:
		for i := range a.NumField() {
			if !sameValues(a.Field(i), b.Field(i)) {
				return false
			}
		}
		return true
	case reflect.Slice:
		for i := range min(a.Len(), b.Len()) {
			if !sameValues(a.Index(i), b.Index(i)) {
				return false
			}
		}
		return a.Len() == b.Len()
	}
	return a.Equal(b)
}

// brief tells a value, but not all of a great one.
func brief(v any) string {
	text := fmt.Sprint(v)
	return text[:min(len(text), 500)]
}

// wantParse holds Parse against a deal (nil: none), and a place.
func wantParse(t *testing.T, text string, want *api.Deal, place int) bool {
	t.Helper()
	d, at, e := tree.Parse(text)
	return holdAnswer(t, text, d, at, e, want, place)
}

func wantParseExpr(t *testing.T, text string, want *api.Expr, place int) bool {
	t.Helper()
	x, at, e := tree.ParseExpr(text)
	return holdAnswer(t, text, x, at, e, want, place)
}

func holdAnswer[T any](t *testing.T, text string, got T, at int, e api.Errno, want *T, place int) bool {
	t.Helper()
	wanted, wantedE := *new(T), api.ErrSyntax
	if want != nil {
		wanted, wantedE = *want, api.OK
	}
	if !same(got, wanted) || at != place || e != wantedE {
		t.Errorf("%.300q: %s, %d, %d, want %s, %d, %d", text, brief(got), at, e, brief(wanted), place, wantedE)
		return false
	}
	return true
}

// holder holds a root's parser against the chapter's grammar.
type holder struct {
	*chart
	hold func(t *testing.T, text string, tokens []api.Token, place int) bool // tokens: all, if the text is one of the grammar's
}

func dealHolder() holder {
	return holder{newChart(readGrammar(), "deal"), func(t *testing.T, text string, tokens []api.Token, place int) bool {
		t.Helper()
		if tokens == nil {
			return wantParse(t, text, nil, place)
		}
		want := plainDeal(tokens)
		return wantParse(t, text, &want, 0)
	}}
}

func exprHolder() holder {
	return holder{newChart(readGrammar(), "expr"), func(t *testing.T, text string, tokens []api.Token, place int) bool {
		t.Helper()
		if tokens == nil {
			return wantParseExpr(t, text, nil, place)
		}
		want := plainExpr(tokens)
		return wantParseExpr(t, text, &want, 0)
	}}
}

// text holds the parser at any text.
func (h holder) text(t *testing.T, text string) bool {
	t.Helper()
	tokens, place, e := lex.Scan(text)
	switch wrong := h.feedAll(tokens); {
	case wrong >= 0:
		return h.hold(t, text, nil, tokens[wrong].At)
	case e != api.OK:
		return h.hold(t, text, nil, place)
	case !h.whole():
		return h.hold(t, text, nil, len(text))
	}
	return h.hold(t, text, tokens, 0)
}

// eachRow holds the parser at all rows of up to depth pieces behind those that the chart was fed with: each row that can go on is gone on with.
func (h holder) eachRow(t *testing.T, ahead []string, pieces []string, depth int) bool {
	t.Helper()
	for _, piece := range pieces {
		row := append(slices.Clone(ahead), piece)
		text := strings.Join(row, " ")
		tokens, _, _ := lex.Scan(text)
		fits, content := h.feed(tokens[len(tokens)-1]), false
		switch {
		case !fits:
			content = h.hold(t, text, nil, len(text)-len(piece))
		case h.whole():
			content = h.hold(t, text, tokens, 0)
		default:
			content = h.hold(t, text, nil, len(text))
		}
		if !content || fits && depth > 1 && !h.eachRow(t, row, pieces, depth-1) {
			return false
		}
		h.back(len(ahead))
	}
	return true
}

// start feeds the chart anew.
func (h holder) start(t *testing.T, text string) []string {
	t.Helper()
	if wrong := h.feedAll(scan(text)); wrong >= 0 {
		t.Fatalf("token %d cannot stand in %q", wrong, text)
	}
	return slices.Clone(h.fed)
}

var allMarks = strings.Fields(".. <= >= == != && || ( ) { } [ ] , ; = + - * / % < > ! ? :")

// allPieces are a token or two of each kind: all keywords and marks, and such as are at the edges of the grammar's kinds.
var allPieces = slices.Concat(chapterKeywords, allMarks, strings.Fields("a S EUR EURO E1_ 0 1 2 2000-02-29 3m"))

// P702: at each place all tokens.
func TestParseExprAllShortRows(t *testing.T) {
	t.Parallel()
	h := exprHolder()
	h.eachRow(t, h.start(t, ""), allPieces, 3)
	h.eachRow(t, h.start(t, ""), strings.Fields("1 a S ( ) - ! * < && || ? : , [ ]"), 6)
	h.eachRow(t, h.start(t, ""), strings.Fields("1 - + * % < == && || ? :"), 7)
	for _, ahead := range []string{"S [", "S [ -", "S [ - 1", "f ( 1", "min (", "min ( 1 ,", "max ( 1 , 2", "abs ( 1", "ratio ( 1 , 2 , 3 ,", "ratio ( 1 , 2 , 3 , half_even", "ratio ( 1 , 2", "thirty ( ", "thirty ( 2000-01-01 ,", "thirty ( 2000-01-01 , 2000-01-01", "1 < 2", "1 ? 2 : 3", "1 ? 2 ?", "1 ? 2 ? 3 : 4"} {
		if !h.eachRow(t, h.start(t, ahead), allPieces, 2) {
			return
		}
	}
}

// P701: at each place all tokens.
func TestParseAllShortRows(t *testing.T) {
	t.Parallel()
	h := dealHolder()
	const head = "deal a { start 2000-01-01 ; "
	for _, x := range []struct {
		ahead string
		depth int
	}{
		{"", 7}, {head, 3}, {head + "holidays 2000-01-01", 3}, {head + "holidays 2000-01-01 ;", 2}, {head + "observe S", 3}, {head + "observe S ;", 2},
		{head + "def f", 3}, {head + "def f ( a , b", 3}, {head + "def f ( ) = 1 ;", 3}, {head + "observe S ; def f ( ) = 1 ; contract zero", 3},
		{head + "contract", 4}, {head + "contract zero", 4}, {head + "contract zero and", 2}, {head + "contract zero ; }", 1}, {head + "contract { zero", 3}, {head + "contract give", 3},
		{head + "contract pay ( EUR , 1", 2}, {head + "contract scale ( 1 )", 2}, {head + "contract delay ( ", 4}, {head + "contract at ( ", 4},
		{head + "contract if ( 1 ) zero", 3}, {head + "contract if ( 1 ) zero else zero", 2}, {head + "contract if ( 1 ) if ( 1 ) zero else zero", 3}, {head + "contract let a = 1", 3}, {head + "contract let a", 2},
		{head + "contract for a in", 2}, {head + "contract for a in 2 ..", 5}, {head + "contract for a in 1 .. 1 step", 2}, {head + "contract for a in every", 6}, {head + "contract for a in every 3m from 2000-01-01 to 2000-01-01 modified", 2},
		{head + "contract accumulate a = 1", 3}, {head + "contract accumulate a = 1 for b in 0 .. 1", 4}, {head + "contract accumulate a = 1 for b in 0 .. 1 by 1", 3}, {head + "contract accumulate a = 1 for b in 0 .. 1 by 1 then zero", 3},
		{head + "contract when ( 1 )", 3}, {head + "contract when ( 1 ) within 1 zero", 3}, {head + "contract when ( 1 ) within 1 zero else zero", 3},
	} {
		if !h.eachRow(t, h.start(t, x.ahead), allPieces, x.depth) {
			return
		}
	}
}

const wholeDeal = `# all that a deal may have
deal swap_1 { start 2026-01-02; holidays 2026-05-01,2026-12-25; observe RATE, S;
  def f(x, y)=x*(y+1)-RATE[-2]; def g()=3;
  contract pay(EUR, f(1, g())) and give scale(RATE[-1]) delay(3) at(2026-02-01) { zero and zero and {zero and zero} }
    and if(true||a<b&&c>=d) zero else let q = -day in for k in 0..10 step 2 accumulate s = 0
      for m in every 3m from 2026-01-31 to 2027-01-31 modified by s + RATE then
      when(S > 9 && !false) within 4 pay(USD, q ? 1 : q != 2 ? - -3 : 2026-02-01 / 2 % 3) else
      pay(USD, ratio(1, 2, 3, half_even)+thirty(2026-01-01, 2026-02-01) + min(1, max(2, abs(3))))
      and for d in 1..2 for e in every 1y from 2026-01-31 to 2026-01-31 zero; }
`

// P701: a deal with each token put elsewhere, twice, away, or changed for any other.
func TestParseChangedTokens(t *testing.T) {
	t.Parallel()
	h := dealHolder()
	row := h.start(t, wholeDeal)
	holdRow := func(row ...[]string) bool { return h.text(t, strings.Join(slices.Concat(row...), " ")) }
	if !h.text(t, wholeDeal) || !h.whole() || !holdRow(row) {
		t.Fatal("the deal itself")
	}
	for at := range row {
		before, behind := row[:at], row[at:]
		if !holdRow(before) || !holdRow(before, behind[1:]) || !holdRow(before, behind[:1], behind) {
			return
		}
		if at > 0 && !holdRow(row[:at-1], behind[:1], row[at-1:at], behind[1:]) {
			return
		}
		for _, piece := range allPieces {
			if !holdRow(before, []string{piece}, behind[1:]) || !holdRow(before, []string{piece}, behind) {
				return
			}
		}
	}
}

// P701: a deal with each byte away, or changed, or one more; most of these are lexical errors, or change a name.
func TestParseChangedBytes(t *testing.T) {
	t.Parallel()
	h := dealHolder()
	for at := range len(wholeDeal) {
		if !h.text(t, wholeDeal[:at]) || !h.text(t, wholeDeal[:at]+wholeDeal[at+1:]) {
			return
		}
		for _, put := range strings.Split("aZ0;-.#\n$\xff", "") {
			if !h.text(t, wholeDeal[:at]+put+wholeDeal[at+1:]) || !h.text(t, wholeDeal[:at]+put+wholeDeal[at:]) {
				return
			}
		}
	}
}

// P702
func TestParseExprByChance(t *testing.T) {
	t.Parallel()
	h := exprHolder()
	chance := rand.New(rand.NewSource(7))
	pieces := []string{"1", "a", "S", "S[-1]", "(", "(", ")", ")", "-", "!", "+", "*", "/", "%", "<", "<=", "==", "!=", "&&", "||", "?", ":", ",", "f(", "min(", "ratio(", ",down)", "thirty(", "2000-01-01", "1999 - 12", "day", "true", "07", "aB", "$", "#\n", "\t"}
	for range 50000 {
		text := ""
		for range 1 + chance.Intn(14) {
			text += pieces[chance.Intn(len(pieces))] + strings.Repeat(" ", chance.Intn(2))
		}
		if !h.text(t, text) {
			return
		}
	}
}

// P701, P702: a token is refused ahead of what stands behind it; a piece that is no token, where it stands.
func TestParseRefusesTheFirst(t *testing.T) {
	h, x := dealHolder(), exprHolder()
	wrong := []string{"$", "_", "07", "7z", "aB", "Ab", "2000-13-01", "2001-02-29", ".", "&", "|", "\x00", "\xff", "\"", strings.Repeat("a", 32), strings.Repeat("A", 32), strings.Repeat("a", 40) + "A", "9223372036854775808", "1000d"}
	for _, piece := range wrong {
		_, stray, _ := lex.Scan(piece)
		for text, at := range map[string]int{"": 0, "1 +": 4, "1": 2, "1 )": 2, "1 2": 2, "(": 2, "S[-": 4, "if": 0, "min(1": 6} {
			if at > len(text) {
				at += stray
			} else if text == "" {
				at = 1 + stray
			}
			wantParseExpr(t, text+" "+piece, nil, at)
			x.text(t, text+" "+piece)
			x.text(t, text+" "+piece+" 1")
		}
		const text = "deal a { start 2000-01-01; contract zero; }"
		wantParse(t, text+piece, nil, len(text)+stray)
		wantParse(t, text+" ; "+piece, nil, len(text)+1)
		wantParse(t, text+" # "+strings.ReplaceAll(piece, "\n", ""), &api.Deal{Name: "a", Start: api.Date{Y: 2000, M: 1, D: 1}, Body: api.Con{Kind: api.CZero}}, 0)
		for at := range len(text) {
			h.text(t, text[:at]+" "+piece+" "+text[at:])
		}
	}
}

// P701, P702
func TestParseOfLongTexts(t *testing.T) {
	const text = "deal a { start 2000-01-01; contract zero; }"
	want := plainDeal(scan(text))
	one := api.Expr{Op: api.XNum, Num: 1}
	for _, gap := range []string{" ", "\n", "#", "# 1\n"} {
		room := strings.Repeat(gap, mostBytes+1)
		wantParse(t, text+room[:mostBytes-len(text)], &want, 0)
		wantParseExpr(t, "1"+room[:mostBytes-1], &one, 0)
		wantParse(t, room[:mostBytes], nil, mostBytes)
		wantParseExpr(t, room[:mostBytes], nil, mostBytes)
		for _, long := range []string{room[:mostBytes+1], text + room[:mostBytes+1-len(text)], "1" + room[:mostBytes], "$" + room[:mostBytes], room + "\n" + text} {
			if d, at, e := tree.Parse(long); !same(d, api.Deal{}) || at != 0 || e != api.ErrLong {
				t.Errorf("Parse of %d bytes: %v, %d, %d", len(long), d, at, e)
			}
			if x, at, e := tree.ParseExpr(long); !same(x, api.Expr{}) || at != 0 || e != api.ErrLong {
				t.Errorf("ParseExpr of %d bytes: %v, %d, %d", len(long), x, at, e)
			}
		}
	}
	wantParseExpr(t, strings.Repeat(" ", mostBytes-1)+"1", &one, 0)
	wantParseExpr(t, strings.Repeat(" ", mostBytes-1)+"+", nil, mostBytes-1)
	wantParseExpr(t, "1"+strings.Repeat(" ", mostBytes-2)+"1", nil, mostBytes-1)
	wantParseExpr(t, "1"+strings.Repeat(" ", mostBytes-2)+"$", nil, mostBytes-1)
}

func scan(text string) []api.Token {
	tokens, _, _ := lex.Scan(text)
	return tokens
}

// TestMain: most of what these tests make is small and soon forgotten; to collect it as often as usual would take half of their time.
func TestMain(m *testing.M) {
	debug.SetGCPercent(400)
	m.Run()
}
