package build_test

import (
	"strconv"
	"strings"
	"testing"

	"payoff/api"
	"payoff/build"
)

// padded: a text with blanks behind it, so that it has that many bytes.
func padded(text string, size int) string { return text + strings.Repeat(" ", size-len(text)) }

// P1802: a text's length is asked first, and only then what it says.
func TestLongTexts(t *testing.T) {
	good := deal("contract pay (EUR, 1);")
	size := api.Measure{Depth: 2, Actions: 1, Nodes: 3, Bytes: 1024 + 3*64}
	wantReport(t, padded(good, api.MaxSource), api.Report{Size: size})
	wantReport(t, padded(good, api.MaxSource+1), api.Report{Err: api.ErrLong})
	for _, wrong := range []string{"$", good + "$", deal("contract pay (EUR, true);"), deal("contract delay (5000) pay (EUR, 1);")} {
		wantReport(t, padded(wrong, api.MaxSource+1), api.Report{Err: api.ErrLong})
		wantReport(t, padded(wrong, 1<<20), api.Report{Err: api.ErrLong})
	}
	wantReport(t, padded("", api.MaxSource), api.Report{Err: api.ErrSyntax, At: api.MaxSource})
	wantReport(t, padded(good, api.MaxSource-1)+"$", api.Report{Err: api.ErrSyntax, At: api.MaxSource - 1})
}

// P1802: whatever the parser refuses a text for, and where.
func TestSyntax(t *testing.T) {
	for text, place := range map[string]int{
		"deal":                               4,
		"deal deal { }":                      5,
		"\xff":                               0,
		"deal a { start 2026-02-30; ":        15, // no token: lex has another error for it
		deal("contract pay (EUR, 1)"):        49,
		deal("contract pay (EUR, 1);;"):      49,
		deal("contract pay (EUR, 1);") + "x": 51,
		deal("contract pay (EUR, 9223372036854775808);"): 46,
		deal("contract pay (EUR, S[-0]);"):               49,
	} {
		wantReport(t, text, api.Report{Err: api.ErrSyntax, At: place})
	}
}

// P1802: what is wrong first in the order of the stages is told, wherever in the text it stands.
func TestOrderOfStages(t *testing.T) {
	wantReport(t, deal("contract pay (EUR, x) and delay (9999) pay (EUR, );"), api.Report{Err: api.ErrSyntax, At: 76})
	wantReport(t, deal("contract delay (9999) pay (EUR, 1) and pay (EUR, x);"), api.Report{Err: api.ErrType, Path: []int{2, 1, 0}})
	wantReport(t, deal("observe A, A; def f(a, a) = x; contract zero;"), api.Report{Err: api.ErrType, Path: []int{0, 1}})
	wantReport(t, deal("def f(a, a) = x; contract pay (EUR, x);"), api.Report{Err: api.ErrType, Path: []int{1, 0}})
	wantReport(t, deal("def f(a) = x; contract pay (EUR, x);"), api.Report{Err: api.ErrType, Path: []int{1, 0, 0}})
	wantReport(t, deal("contract at (2026-01-04) zero;"), api.Report{Err: api.ErrType, Path: []int{2}})
	wantReport(t, deal("contract delay (1) { zero and give if (1 < true) zero else zero };"), api.Report{Err: api.ErrType, Path: []int{2, 0, 1, 0, 0, 1}})
}

// sum: an expression of that many nodes.
func sum(nodes int) string {
	if nodes%2 == 0 {
		return "-(" + sum(nodes-1) + ")"
	}
	return strings.Repeat("1 + ", nodes/2) + "1"
}

func observables(count int) string {
	var list []string
	for i := range count {
		list = append(list, "N"+strconv.Itoa(i))
	}
	return "observe " + strings.Join(list, ", ") + "; "
}

// atLimits: for each measure a deal that has as much of it as may be, and one that has one more.
func atLimits() []struct{ most, more string } {
	nodes := "contract for t in 0 .. 1022 pay (EUR, " + sum(14) + ") and pay (USD, "
	return []struct{ most, more string }{
		{"contract " + strings.Repeat("give ", 62) + "pay (EUR, 1);", "contract " + strings.Repeat("give ", 63) + "pay (EUR, 1);"},
		{"contract delay (3660) pay (EUR, 1);", "contract delay (3661) pay (EUR, 1);"},
		{"contract for t in 0 .. 2047 pay (EUR, t);", "contract for t in 0 .. 2048 pay (EUR, t);"},
		{nodes + sum(14) + ");", nodes + sum(15) + ");"},
		{"contract for t in 0 .. 511 accumulate s = t for u in 0 .. 0 by s * u then zero;", "contract for t in 0 .. 512 accumulate s = t for u in 0 .. 0 by s * u then zero;"},
		{observables(64) + "contract pay (EUR, N63);", observables(65) + "contract pay (EUR, N64);"},
	}
}

// P1802, P4: each limit: what is just within it has an image, what is one above has none, and is told how great it is.
func TestLimits(t *testing.T) {
	sizes := func(m api.Measure) [6]int { return [6]int{m.Depth, m.Horizon, m.Actions, m.Nodes, m.Cells, m.Names} }
	limits := [6]int{api.MaxDepth, api.MaxHorizon, api.MaxActions, api.MaxNodes, api.MaxCells, api.MaxNames}
	for i, c := range atLimits() {
		_, most := build.Compile(deal(c.most), true, true)
		_, more := build.Compile(deal(c.more), true, true)
		if got := sizes(most.Size); most.Err != api.OK || got[i] != limits[i] {
			t.Errorf("%.60q: %+v", c.most, most)
		}
		if got := sizes(more.Size); more.Err != api.ErrLimit || got[i] != limits[i]+1 {
			t.Errorf("%.60q: %+v", c.more, more)
		}
		for n, got := range sizes(more.Size) {
			if n != i && got > limits[n] {
				t.Errorf("%.60q: %+v: two limits", c.more, more)
			}
		}
		wantReport(t, deal(c.most), most)
		wantReport(t, deal(c.more), more)
		if more.Size.Bytes != 1024+40*more.Size.Names+64*more.Size.Nodes {
			t.Errorf("%.60q: %+v", c.more, more)
		}
	}
}

// P1802: measures that stop at 2^30, and several limits at once.
func TestFarBeyondLimits(t *testing.T) {
	const endless = "9223372036854775807"
	text := deal("contract delay (" + endless + ") for t in 0 .. " + endless + " when (true) within " + endless + " pay (EUR, t) else zero;")
	_, r := build.Compile(text, true, true)
	if r.Err != api.ErrLimit || r.Size.Horizon != 1<<30 || r.Size.Actions != 1<<30 || r.Size.Nodes != 1<<30 || r.Size.Cells != 1<<30 || r.Size.Depth != 5 || r.Size.Names != 0 || r.Size.Bytes != 1<<30 {
		t.Errorf("%+v", r)
	}
	wantReport(t, text, r)
}

// doubling: a deal of so many lets, each twice the one ahead, and what stands behind them.
func doubling(lets int, behind string) string {
	text := "contract let x = 1 in "
	for range lets {
		text += "let x = x + x in "
	}
	return deal(text + behind + ";")
}

// P1802: a small text whose tree would be too great to be built is refused by its measure, or taken if nothing names what is too great.
func TestDoubling(t *testing.T) {
	_, r := build.Compile(doubling(50, "pay (EUR, x)"), true, true)
	if r.Err != api.ErrLimit || r.Size.Nodes != 1<<30 || r.Size.Depth != 53 {
		t.Errorf("%+v", r)
	}
	wantReport(t, doubling(50, "pay (EUR, x)"), r)
	wantReport(t, doubling(50, "pay (EUR, 7)"), api.Report{Size: api.Measure{Depth: 53, Actions: 1, Nodes: 3, Bytes: 1024 + 3*64}})
	wantOutcome(t, doubling(50, "pay (EUR, 7)"), api.Table{}, api.NoFault, 0, api.Flow{Cur: "EUR", Amount: 7})
	wantOutcome(t, doubling(12, "pay (EUR, x)"), api.Table{}, api.NoFault, 0, api.Flow{Cur: "EUR", Amount: 4096})
}

// P1801: texts nested as deep as a text can be; what is wrong with one may stand at its end.
func TestDeepTexts(t *testing.T) {
	t.Parallel()
	const depth = 32000
	nest := func(open, inner, end string) string {
		return deal("contract " + strings.Repeat(open, depth/len(open)) + inner + strings.Repeat(end, depth/len(open)) + ";")
	}
	one := api.Measure{Depth: 2, Actions: 1, Nodes: 3, Bytes: 1024 + 3*64}
	wantReport(t, nest("{", "pay (EUR, 1)", "}"), api.Report{Size: one})
	wantReport(t, deal("contract pay (EUR, "+strings.Repeat("(", depth)+"1"+strings.Repeat(")", depth)+");"), api.Report{Size: one})
	wantReport(t, nest("{", "pay (EUR, true)", "}"), api.Report{Err: api.ErrType, Path: []int{2, 0}})
	unclosed := "deal a { start 2026-01-05; contract " + strings.Repeat("{", depth)
	wantReport(t, unclosed, api.Report{Err: api.ErrSyntax, At: len(unclosed)})
	unclosed = "deal a { start 2026-01-05; contract pay (EUR, " + strings.Repeat("-!(", depth/2)
	wantReport(t, unclosed, api.Report{Err: api.ErrSyntax, At: len(unclosed)})

	for _, c := range []struct {
		open, inner string
		depth       int
	}{
		{"give ", "pay (EUR, 1)", depth/5 + 2},
		{"delay (0) ", "pay (EUR, 1)", depth/10 + 2},
		{"let x = 1 in ", "pay (EUR, x)", depth/13 + 2},
	} {
		_, r := build.Compile(nest(c.open, c.inner, ""), true, true)
		if r.Err != api.ErrLimit || r.Size.Depth != c.depth || r.Size.Actions != 1 {
			t.Errorf("%q: %+v", c.open, r)
		}
		wantReport(t, nest(c.open, c.inner, ""), r)
	}
	path := []int{2}
	for range depth / 5 {
		path = append(path, 0)
	}
	wantReport(t, nest("give ", "pay (EUR, x)", ""), api.Report{Err: api.ErrType, Path: append(path, 0)})
	_, r := build.Compile(deal("contract pay (EUR, "+strings.Repeat("-", 2*depth)+"1);"), true, true)
	if r.Err != api.ErrLimit || r.Size.Depth != 2*depth+2 || r.Size.Nodes != 2*depth+3 {
		t.Errorf("%+v", r)
	}
}
