package lower_test

import (
	"slices"
	"strings"
	"testing"

	"payoff/api"
	"payoff/asm"
	"payoff/dag"
	"payoff/lower"
)

func op(op int, kids ...api.X) api.X { return api.X{Op: op, Kids: kids} }

func xNum(n int) api.X { return api.X{Op: api.XNum, Num: n} }

func xObs(observable, day int) api.X { return api.X{Op: api.XObs, Num: observable, Day: day} }

func xCell(n int) api.X { return api.X{Op: api.XCell, Num: n} }

func pays(day int, e api.X, steps ...api.Step) api.Action {
	return api.Action{Day: day, Kind: api.ActFlow, Cur: "EUR", E: e, Steps: steps}
}

func sets(day, cell int, e api.X, steps ...api.Step) api.Action {
	return api.Action{Day: day, Kind: api.ActSet, Cell: cell, E: e, Steps: steps}
}

func test(want bool, e api.X) api.Step { return api.Step{Kind: api.StepTest, Want: want, E: e} }

func times(e api.X) api.Step { return api.Step{Kind: api.StepTimes, E: e} }

func give() api.Step { return api.Step{Kind: api.StepGive} }

var (
	xA, xB   = xObs(0, 0), xObs(1, 0)
	positive = op(api.XGt, xA, xNum(0))
	square   = op(api.XMul, xA, xA)
	never    = test(true, op(api.XFalse)) // what has it is cut, if it is folded
)

// form: the normal form of actions, with the names A and B, four accumulators, and the horizon 5.
func form(t *testing.T, fold bool, actions ...api.Action) api.Normal {
	t.Helper()
	n, e := dag.Norm([]string{"A", "B"}, actions, 4, 5, fold)
	if e != api.OK {
		t.Fatalf("Norm: %d", e)
	}
	return n
}

// words: a day's code, as in chapter 13, with "; " between the instructions.
func words(p api.Program, segment int) string {
	var list []string
	for _, i := range p.Days[segment].Code {
		text, _ := asm.PrintInstr(p, i)
		list = append(list, text)
	}
	return strings.Join(list, "; ")
}

// wantCode: the code of a form's first day, and what it keeps.
func wantCode(t *testing.T, n api.Normal, share bool, want string, kept ...int) api.Program {
	t.Helper()
	hold(t, n)
	p := lowered(t, n, share)
	if got := words(p, 0); got != want {
		t.Errorf("share %v:\n%s, want\n%s", share, got, want)
	}
	if list := keptOn(t, n, p.Days[0].Day); share && !slices.Equal(list, kept) {
		t.Errorf("Shared: %v, want %v", list, kept)
	}
	return p
}

// wantBoth: likewise, with share and without, where nothing is shared.
func wantBoth(t *testing.T, n api.Normal, want string) api.Program {
	t.Helper()
	wantCode(t, n, false, want)
	return wantCode(t, n, true, want)
}

// The examples of the chapter. P1701
func TestExample1(t *testing.T) {
	p := wantBoth(t, form(t, true, pays(0, op(api.XAdd, xA, xNum(1)))), "obs A 0; const 1; add; flow EUR; end")
	if p.Stack != 2 || p.Slots != 0 || p.Cells != 0 || p.Horizon != 5 || !slices.Equal(p.Names, []string{"A"}) || !slices.Equal(p.Curs, []string{"EUR"}) || !slices.Equal(p.Pool, []int{1}) {
		t.Errorf("%+v", p)
	}
}

// P1701
func TestExample2(t *testing.T) {
	wantBoth(t, form(t, true, pays(0, xNum(5), test(true, positive))), "obs A 0; const 0; gt; zero 2; const 5; flow EUR; end")
	wantBoth(t, form(t, true, pays(0, xNum(5), test(false, positive))), "obs A 0; const 0; gt; not; zero 2; const 5; flow EUR; end")
}

// P1701
func TestExample3(t *testing.T) {
	wantBoth(t, form(t, true, pays(0, xNum(5), times(xA), test(true, positive), give())),
		"obs A 0; obs A 0; const 0; gt; zero 5; const 5; neg; mul; flow EUR; jump 1; drop; end")
}

// P1701, P1702
func TestExample4(t *testing.T) {
	n := form(t, true, pays(0, square), pays(0, square))
	wantCode(t, n, true, "obs A 0; obs A 0; mul; keep 0; flow EUR; get 0; flow EUR; end", 1)
	wantCode(t, n, false, "obs A 0; obs A 0; mul; flow EUR; obs A 0; obs A 0; mul; flow EUR; end")
}

// P1701, P1702
func TestExample5(t *testing.T) {
	more := op(api.XAdd, square, xNum(1))
	n := form(t, true, pays(0, more, test(true, op(api.XGt, square, xNum(9)))), pays(0, more))
	wantCode(t, n, true, "obs A 0; obs A 0; mul; keep 0; const 9; gt; zero 4; get 0; const 1; add; flow EUR; get 0; const 1; add; flow EUR; end", 1)
}

// P1701
func TestExample6(t *testing.T) {
	p := wantBoth(t, form(t, true, pays(0, xNum(7), times(op(api.XDiv, xA, xB)), never)), "obs A 0; obs B 0; div; drop; end")
	if len(p.Curs) != 0 || len(p.Pool) != 0 {
		t.Errorf("%+v", p)
	}
}

// P1701
func TestExample7(t *testing.T) {
	wantBoth(t, form(t, true, pays(0, xNum(1), test(true, op(api.XAnd, positive, op(api.XLt, xA, xNum(9)))))),
		"obs A 0; const 0; gt; zero 4; obs A 0; const 9; lt; jump 1; bool 0; zero 2; const 1; flow EUR; end")
}

// P1701: nothing to do.
func TestNothing(t *testing.T) {
	for _, n := range []api.Normal{{}, {Horizon: 3}, {Names: []string{"B", "A"}, Cells: 512, Horizon: 3660}} {
		for _, share := range []bool{true, false} {
			p := lowered(t, n, share)
			if p.Horizon != n.Horizon || len(p.Names)+len(p.Curs)+len(p.Pool)+len(p.Days)+p.Cells+p.Slots+p.Stack != 0 {
				t.Errorf("Lower(%+v): %+v", n, p)
			}
		}
		for _, day := range []int{-1, 0, 3, 3660} {
			if list, e := lower.Shared(n, day); e != api.ErrRange || list != nil {
				t.Errorf("Shared(%+v, %d): %v, %d", n, day, list, e)
			}
		}
	}
}
