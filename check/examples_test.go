package check_test

import (
	"slices"
	"testing"

	"payoff/api"
	"payoff/check"
	"payoff/tree"
)

// deal reads a deal that begins on 1 January 2024.
func deal(t *testing.T, parts string) api.Deal {
	t.Helper()
	d, at, e := tree.Parse("deal x { start 2024-01-01; " + parts + " }")
	if e != api.OK {
		t.Fatalf("%.200q is no deal: %d at %d", parts, e, at)
	}
	return d
}

// wantMisfit: Check tells that path; none: all fits. And the other calls tell its error.
func wantMisfit(t *testing.T, parts string, want ...int) {
	t.Helper()
	d := deal(t, parts)
	wantE := api.OK
	if len(want) > 0 {
		wantE = api.ErrType
	}
	if path, e := check.Check(d); !slices.Equal(path, want) || e != wantE {
		t.Errorf("Check(%.200s): %v, %d, want %v, %d", parts, path, e, want, wantE)
	}
	if m, e := check.Measure(d); e != wantE || e != api.OK && m != (api.Measure{}) {
		t.Errorf("Measure(%.200s): %v, %d", parts, m, e)
	}
	wantDays(t, d, []int{2}, 0, 0, wantE)
}

func wantMeasure(t *testing.T, parts string, want api.Measure) {
	t.Helper()
	if m, e := check.Measure(deal(t, parts)); m != want || e != api.OK {
		t.Errorf("Measure(%.200s): %+v, %d, want %+v", parts, m, e, want)
	}
}

func wantOffsets(t *testing.T, d api.Deal, r api.Range, day int, e api.Errno, want ...int) {
	t.Helper()
	if offsets, got := check.Offsets(d, r, day); !slices.Equal(offsets, want) || got != e {
		t.Errorf("Offsets(%+v, %d): %v, %d, want %v, %d", r, day, offsets, got, want, e)
	}
}

// The chapter's examples. P801, P802
func TestExample1(t *testing.T) {
	wantMisfit(t, "observe A, B, A; contract zero;", 0, 2)
	wantMisfit(t, "def f(a, a) = 1; contract zero;", 1, 0)
	wantMisfit(t, "def f(a) = b; contract zero;", 1, 0, 0)
	wantMisfit(t, "def f() = g(); def g() = 1; contract zero;", 1, 0, 0)
	wantMisfit(t, "def f(a) = !a; contract zero;", 1, 0, 0, 0)
}

// P802, P804
func TestExample2(t *testing.T) {
	wantMisfit(t, "contract pay(EUR, true);", 2, 0)
	wantMisfit(t, "contract if (1) zero else zero;", 2, 0)
	wantMisfit(t, "contract pay(EUR, true ? 1 : false);", 2, 0, 2)
}

// P802
func TestExample3(t *testing.T) {
	wantMisfit(t, "observe A; contract pay(EUR, A[-1]);", 2, 0)
	wantMisfit(t, "observe A; contract delay(1) pay(EUR, A[-1]);")
	wantMisfit(t, "observe A; def f() = A[-2]; contract delay(1) pay(EUR, f());", 2, 0, 0)
}

// P804, P809
func TestExample4(t *testing.T) {
	wantMisfit(t, "contract delay(5) at(2024-01-05) zero;", 2, 0)
	wantMisfit(t, "contract delay(5) at(2024-01-06) zero;")
	wantDays(t, deal(t, "contract delay(5) at(2024-01-06) zero;"), []int{2, 0, 0}, 5, 5, api.OK)
}

// P805, P807, P809
func TestExample5(t *testing.T) {
	parts := "contract for t in 2 .. 9 step 3 pay(EUR, t);"
	wantDays(t, deal(t, parts), []int{2, 0}, 2, 8, api.OK)
	wantMeasure(t, parts, api.Measure{Depth: 3, Horizon: 8, Actions: 3, Nodes: 9, Bytes: 1600})
	d := deal(t, parts)
	wantOffsets(t, d, d.Body.Range, 0, api.OK, 2, 5, 8)
}

// P805, P806, P807
func TestExample6(t *testing.T) {
	wantMeasure(t, "contract let x = 1 + 2 in scale(x) give pay(EUR, x * x);", api.Measure{Depth: 6, Actions: 1, Nodes: 14, Bytes: 1024 + 64*14})
}

// P807, P809
func TestExample7(t *testing.T) {
	parts := "observe A; contract accumulate s = 0 for t in 1 .. 3 by s + A then pay(EUR, s);"
	wantMeasure(t, parts, api.Measure{Depth: 3, Horizon: 3, Actions: 5, Nodes: 21, Cells: 1, Names: 1, Bytes: 1024 + 40 + 64*21})
	wantDays(t, deal(t, parts), []int{2, 2}, 3, 3, api.OK)
}

// P807, P809
func TestExample8(t *testing.T) {
	parts := "observe A; contract when (A > 5) within 2 pay(EUR, 1) else zero;"
	wantMeasure(t, parts, api.Measure{Depth: 3, Horizon: 2, Actions: 6, Nodes: 60, Cells: 1, Names: 1, Bytes: 1024 + 40 + 64*60})
	wantDays(t, deal(t, parts), []int{2, 1}, 0, 2, api.OK)
	wantDays(t, deal(t, parts), []int{2, 2}, 2, 2, api.OK)
}

// P804, P809, P810
func TestExample9(t *testing.T) {
	d := deal(t, "contract for t in every 1m from 2024-02-01 to 2024-04-01 pay(EUR, t);")
	wantDays(t, d, []int{2, 0}, 31, 91, api.OK)
	wantOffsets(t, d, d.Body.Range, 10, api.OK, 21, 50, 81)
	wantOffsets(t, d, d.Body.Range, 32, api.ErrType)
	wantMisfit(t, "contract for t in every 1m from 2023-12-01 to 2024-04-01 pay(EUR, t);", 2)
}

// P805, P807, P810
func TestExample10(t *testing.T) {
	parts := "contract for t in 0 .. 1000000 zero;"
	wantMisfit(t, parts)
	wantMeasure(t, parts, api.Measure{Depth: 2, Bytes: 1024})
	d := deal(t, parts)
	wantOffsets(t, d, d.Body.Range, 0, api.ErrLong)
}
