package build_test

import (
	"bytes"
	"slices"
	"strings"
	"testing"

	"payoff/api"
	"payoff/build"
	"payoff/table"
)

// deal: the text of a deal with these parts behind its start.
func deal(parts string) string { return "deal a { start 2026-01-05; " + parts + " }" }

// textA is the text A of the chapter's examples.
var textA = deal("observe S; contract scale (2) delay (1) pay (EUR, S - S[-1]);")

// eachSetting calls with the four settings of fold and share.
func eachSetting(with func(fold, share bool)) {
	for _, fold := range []bool{false, true} {
		for _, share := range []bool{false, true} {
			with(fold, share)
		}
	}
}

// tab: the table that a text says.
func tab(t *testing.T, text string) api.Table {
	t.Helper()
	x, place, e := table.Parse(text)
	if e != api.OK {
		t.Fatalf("%q: %d, %d", text, place, e)
	}
	return x
}

// compiled: the image of a text that has one.
func compiled(t *testing.T, text string, fold, share bool) []byte {
	t.Helper()
	b, r := build.Compile(text, fold, share)
	if r.Err != api.OK || len(b) == 0 || r.At != 0 || len(r.Path) > 0 {
		t.Fatalf("Compile(%.300q): %d bytes, %+v", text, len(b), r)
	}
	return b
}

func sameOutcome(a, b api.Outcome) bool {
	return slices.Equal(a.Flows, b.Flows) && a.Fault == b.Fault && a.Day == b.Day
}

func sameReport(a, b api.Report) bool {
	return a.Err == b.Err && a.At == b.At && slices.Equal(a.Path, b.Path) && a.Size == b.Size
}

func isNothing(out api.Outcome) bool { return sameOutcome(out, api.Outcome{}) }

// wantReport: all that tells of a text tells this report, and with an error nothing else.
func wantReport(t *testing.T, text string, want api.Report) {
	t.Helper()
	eachSetting(func(fold, share bool) {
		b, r := build.Compile(text, fold, share)
		if !sameReport(r, want) || (len(b) > 0) != (want.Err == api.OK) {
			t.Errorf("Compile(%.200q, %v, %v): %d bytes, %.200v, want %.200v", text, fold, share, len(b), r, want)
		}
	})
	out, r := build.Mean(text, api.Table{})
	if !sameReport(r, want) || want.Err != api.OK && !isNothing(out) {
		t.Errorf("Mean(%.200q): %v, %.200v, want %.200v", text, out, r, want)
	}
}

// wantOutcome: what a text comes to over a table, by its programs and without one.
func wantOutcome(t *testing.T, text string, in api.Table, fault api.Fault, day int, flows ...api.Flow) {
	t.Helper()
	want := api.Outcome{Flows: flows, Fault: fault, Day: day}
	eachSetting(func(fold, share bool) {
		if out, e := build.Run(compiled(t, text, fold, share), in); e != api.OK || !sameOutcome(out, want) {
			t.Errorf("Run of %q, %v, %v: %+v, %d, want %+v", text, fold, share, out, e, want)
		}
	})
	if out, r := build.Mean(text, in); r.Err != api.OK || !sameOutcome(out, want) {
		t.Errorf("Mean of %q: %+v, %+v, want %+v", text, out, r, want)
	}
}

func wantRunError(t *testing.T, b []byte, in api.Table, want api.Errno) {
	t.Helper()
	if out, e := build.Run(b, in); e != want || !isNothing(out) {
		t.Errorf("Run of %.80x: %+v, %d, want %d", b, out, e, want)
	}
}

func wantNeeds(t *testing.T, b []byte, want ...api.Pair) {
	t.Helper()
	if pairs, e := build.Needs(b); e != api.OK || !slices.Equal(pairs, want) {
		t.Errorf("Needs: %v, %d, want %v", pairs, e, want)
	}
}

// Example 1.
func TestExampleSize(t *testing.T) {
	wantReport(t, textA, api.Report{Size: api.Measure{Depth: 5, Horizon: 1, Actions: 1, Nodes: 7, Names: 1, Bytes: 1512}})
}

// Example 2.
func TestExampleRun(t *testing.T) {
	wantOutcome(t, textA, tab(t, "day S\n0 5\n1 8\n"), api.NoFault, 0, api.Flow{Day: 1, Cur: "EUR", Amount: 6})
	wantOutcome(t, textA, tab(t, "day S\n0 5\n"), api.NoObs, 1)
	wantOutcome(t, textA, tab(t, "day T\n0 5\n1 8\n"), api.NoObs, 1)
	wantOutcome(t, textA, api.Table{}, api.NoObs, 1)
}

// Example 3.
func TestExampleNeeds(t *testing.T) {
	eachSetting(func(fold, share bool) {
		wantNeeds(t, compiled(t, textA, fold, share), api.Pair{Name: "S", V: 0}, api.Pair{Name: "S", V: 1})
	})
}

// Example 4.
func TestExampleFault(t *testing.T) {
	wantOutcome(t, deal("contract pay (EUR, 1 / 0) and pay (USD, 2);"), api.Table{}, api.DivZero, 0)
	wantOutcome(t, deal("contract pay (USD, 2) and pay (EUR, 1 / 0);"), api.Table{}, api.DivZero, 0, api.Flow{Cur: "USD", Amount: 2})
}

// Examples 5 and 6.
func TestExampleRefused(t *testing.T) {
	wantReport(t, deal("contract pay (EUR, S);"), api.Report{Err: api.ErrType, Path: []int{2, 0}})
	wantReport(t, deal("contract pay (EURO, 1);"), api.Report{Err: api.ErrSyntax, At: 41})
	wantReport(t, "", api.Report{Err: api.ErrSyntax})
	wantReport(t, strings.Repeat(" ", 65537), api.Report{Err: api.ErrLong})
	wantReport(t, deal("contract delay (5000) pay (EUR, true);"), api.Report{Err: api.ErrType, Path: []int{2, 0, 0}})
	wantReport(t, deal("contract delay (5000) pay (EUR, 1);"), api.Report{Err: api.ErrLimit, Size: api.Measure{Depth: 3, Horizon: 5000, Actions: 1, Nodes: 3, Bytes: 1024 + 3*64}})
}

// Example 7.
func TestExampleBytes(t *testing.T) {
	for _, none := range [][]byte{nil, {}} {
		wantRunError(t, none, api.Table{}, api.ErrShort)
		if pairs, e := build.Needs(none); e != api.ErrShort || len(pairs) > 0 {
			t.Errorf("Needs of no bytes: %v, %d", pairs, e)
		}
	}
	b := compiled(t, textA, true, true)
	for at := range b {
		want := api.ErrSum
		if at < 8 {
			want = api.ErrMagic
		}
		turned := bytes.Clone(b)
		turned[at] ^= 0x40
		wantRunError(t, turned, api.Table{}, want)
		if pairs, e := build.Needs(turned); e != want || len(pairs) > 0 {
			t.Errorf("Needs, byte %d turned: %v, %d, want %d", at, pairs, e, want)
		}
	}
}
