package build_test

import (
	"slices"
	"strconv"
	"strings"
	"testing"

	"payoff/api"
	"payoff/build"
	"payoff/image"
)

// The greatest deals: they have images, within what is told of them, and come to what they mean.

// full: a table of so many days that has all of these names, with small numbers.
func full(names []string, days int) api.Table {
	t := api.Table{Names: names}
	for day := range days {
		row := make([]api.Cell, len(names))
		for i := range row {
			row[i] = api.Cell{Has: true, V: (day*7+i*3)%11 - 5}
		}
		t.Rows = append(t.Rows, row)
	}
	return t
}

// wantGreat holds P1806 to P1809 for a great deal, which runs through without a fault over a full table.
func wantGreat(t *testing.T, text string, names []string) api.Outcome {
	t.Helper()
	images := wantWithin(t, text)
	out := wantSameByAllRoads(t, text, images, full(names, api.MaxRows))
	if out.Fault != api.NoFault {
		t.Errorf("%.80q: %d on day %d", text, out.Fault, out.Day)
	}
	wantSameByAllRoads(t, text, images, api.Table{})
	wantSameByAllRoads(t, text, images, full(names, 100))
	for _, b := range images {
		pairs, e := build.Needs(b)
		if want, _ := plainNeeds(b); e != api.OK || !slices.Equal(pairs, want) {
			t.Errorf("%.80q: %d pairs, %d, want %d", text, len(pairs), e, len(want))
		}
	}
	return out
}

// P1806, P1807: the deals that are just within a limit.
func TestJustWithin(t *testing.T) {
	t.Parallel()
	for _, c := range atLimits() {
		var names []string
		for i := range api.MaxNames {
			names = append(names, "N"+strconv.Itoa(i))
		}
		wantGreat(t, deal(c.most), names)
	}
}

// never is a contract of which nothing comes but a factor's faults.
const never = "scale (S) if (false) pay (EUR, 1) else zero"

// P1806, P1807: for each operator, and each kind of step, as many nodes of it as there may be.
func TestManyNodesOfAKind(t *testing.T) {
	t.Parallel()
	for _, e := range []string{
		"S + T", "S - T", "S * T", "S / (T * T + 1)", "S % (T * T + 1)", "min (S, T)", "max (S, T)", "abs (S)", "-S", "ratio (S, T, 7, half_even)",
		"S < T ? S : T", "S < T && T < 3 ? 1 : 2", "S < T || T < 3 ? 1 : 2", "!(S == T) ? 1 : 2", "true ? S : 1 / 0", "1 + 2 * 3",
	} {
		wantMany(t, "scale ("+e+") pay (EUR, "+e+")")
	}
	for _, c := range []string{
		"if (S < T) pay (EUR, 1) else pay (USD, 2)", "if (S < T) zero else give pay (USD, 2)", "scale (S) if (S < T) pay (EUR, 1) else zero",
		never, "scale (S) scale (T) if (S < T) give scale (2) if (true) pay (EUR, 1) else pay (EUR, T) else zero",
		"when (S < T) within 1 pay (EUR, S) else pay (EUR, T)", "accumulate s = T for u in 0 .. 1 by s + S then pay (EUR, s)",
	} {
		wantMany(t, c)
	}
}

// wantMany takes a contract as often as there is room for, on one day and on many.
func wantMany(t *testing.T, con string) {
	t.Helper()
	_, r := build.Compile(deal("observe S, T; contract "+con+";"), true, true)
	if r.Err != api.OK || r.Size.Nodes == 0 {
		t.Fatalf("%q: %v", con, r)
	}
	times := min(api.MaxNodes/r.Size.Nodes, api.MaxActions/r.Size.Actions)
	if r.Size.Cells > 0 {
		times = min(times, api.MaxCells/r.Size.Cells)
	}
	names, part := []string{"T", "S"}, con+" and "
	out := wantGreat(t, deal("observe S, T; contract for t in 0 .. "+strconv.Itoa(times-1)+" "+con+";"), names)
	if len(out.Flows) < times/4 && con != never {
		t.Errorf("%q: %d flows on %d days", con, len(out.Flows), times)
	}
	wantGreat(t, deal("observe S, T; contract "+strings.Repeat(part, min(times, 500)-1)+con+";"), names)
}

// P1806: as many currencies, constants, observables and days as there may be, each of them named; without sharing and with it.
func TestGreatLists(t *testing.T) {
	t.Parallel()
	text, names := observables(api.MaxNames)+"contract zero", []string(nil)
	for i := range api.MaxNames {
		names = append(names, "N"+strconv.Itoa(i))
	}
	const payments = 1000
	for i := range payments {
		cur := string([]byte{byte('A' + i%26), byte('A' + i/26%26), byte('A' + i/676)})
		text += " and delay (" + strconv.Itoa(i*api.MaxHorizon/(payments-1)) + ") pay (" + cur + ", N" + strconv.Itoa(i%api.MaxNames) + " + " + strconv.Itoa(1000000+i) + ")"
	}
	text = deal(text + ";")
	if len(text) > api.MaxSource {
		t.Fatalf("%d bytes", len(text))
	}
	out := wantGreat(t, text, names)
	b := compiled(t, text, true, true)
	p, _, _ := image.Decode(b)
	if len(p.Curs) != payments || len(p.Pool) != payments || len(p.Days) != payments || len(p.Names) != api.MaxNames || p.Horizon != api.MaxHorizon || len(out.Flows) != payments {
		t.Errorf("%d currencies, %d constants, %d days, %d names, horizon %d, %d flows", len(p.Curs), len(p.Pool), len(p.Days), len(p.Names), p.Horizon, len(out.Flows))
	}
}

// P1806, P1807: constants as great as can be, and each one far from the others.
func TestGreatConstants(t *testing.T) {
	t.Parallel()
	for i := range 64 {
		n := strconv.FormatUint(1<<63-1-(1<<i-1), 10)
		text := deal("contract pay (EUR, " + n + ") and give pay (EUR, " + n + ") and pay (USD, -" + n + " - 1);")
		wantWithin(t, text)
		v, _ := strconv.Atoi(n)
		wantOutcome(t, text, api.Table{}, api.NoFault, 0, api.Flow{Cur: "EUR", Amount: v}, api.Flow{Cur: "EUR", Amount: -v}, api.Flow{Cur: "USD", Amount: -v - 1})
	}
}

// P1807, P1809: observations as far back as can be, over the longest table.
func TestFarthestLook(t *testing.T) {
	t.Parallel()
	text := deal("observe S, T; contract delay (3660) pay (EUR, S[-3660] * 1000 + T[-1] * 100 + S);")
	in := full([]string{"S", "T"}, api.MaxRows)
	wantWithin(t, text)
	want := in.Rows[0][0].V*1000 + in.Rows[3659][1].V*100 + in.Rows[3660][0].V
	wantOutcome(t, text, in, api.NoFault, 0, api.Flow{Day: 3660, Cur: "EUR", Amount: want})
	in.Rows = in.Rows[:3660]
	wantOutcome(t, text, in, api.NoObs, 3660)
	wantNeeds(t, compiled(t, text, true, true), api.Pair{Name: "S"}, api.Pair{Name: "T", V: 3659}, api.Pair{Name: "S", V: 3660})
	wantReport(t, deal("observe S; contract delay (3660) pay (EUR, S[-3661]);"), api.Report{Err: api.ErrType, Path: []int{2, 0, 0}})
}
