package dag_test

import (
	"testing"

	"payoff/api"
	"payoff/dag"
)

// wantAsPlain: both settings of fold, against the plain reading of the chapter.
func wantAsPlain(t *testing.T, names []string, actions []api.Action, cells, horizon int) api.Errno {
	t.Helper()
	var e api.Errno
	for _, fold := range []bool{true, false} {
		var n api.Normal
		n, e = dag.Norm(names, actions, cells, horizon, fold)
		if want, wantE := plainNorm(names, actions, cells, horizon, fold); e != wantE || !sameNormal(n, want) {
			t.Fatalf("Norm(%v, %+v, %d, %d, %v): %+v, %d, want %+v, %d", names, actions, cells, horizon, fold, n, e, want, wantE)
		}
	}
	return e
}

// kidLists: all lists of at most that many kids out of some.
func kidLists(most int, some ...api.X) [][]api.X {
	all, last := [][]api.X{nil}, [][]api.X{nil}
	for range most {
		var longer [][]api.X
		for _, list := range last {
			for _, x := range some {
				longer = append(longer, append(list[:len(list):len(list)], x))
			}
		}
		all, last = append(all, longer...), longer
	}
	return all
}

// P1001: every operator over every list of kids that are numbers and truths, constant or not, as an amount and as a test.
func TestOperatorsOfExpressions(t *testing.T) {
	t.Parallel()
	taken := map[int]int{}
	for o := -1; o <= 32; o++ {
		for _, kids := range kidLists(4, s, xNum(0), xNum(-7), op(api.XTrue), op(api.XFalse), below) {
			x := op(o, kids...)
			e := wantAsPlain(t, []string{"S"}, []api.Action{pays(0, x)}, 1, 5)
			f := wantAsPlain(t, []string{"S"}, []api.Action{pays(0, s, test(true, x))}, 1, 5)
			if e == api.OK || f == api.OK {
				taken[o]++
			}
		}
	}
	if len(taken) != len(kidCounts()) {
		t.Errorf("%v operators are taken, of %d", taken, len(kidCounts()))
	}
}

// P1001: Num and Day of every operator, over kids that it takes.
func TestFieldsOfExpressions(t *testing.T) {
	t.Parallel()
	taken := map[int]int{}
	for o := -1; o <= 32; o++ {
		for _, num := range []int{-1 << 63, -1, 0, 1, 2, 4, 5, 1<<63 - 1} {
			for _, day := range []int{-1 << 63, -1, 0, 1, 3, 4, 5, 6, 1<<63 - 1} {
				for _, kids := range [][]api.X{nil, {s}, {below}, {s, s}, {below, below}, {s, s, s}, {below, s, s}, {below, below, below}} {
					x := api.X{Op: o, Num: num, Day: day, Kids: kids}
					e := wantAsPlain(t, []string{"S", "T"}, []api.Action{pays(3, x)}, 1, 5)
					f := wantAsPlain(t, []string{"S", "T"}, []api.Action{pays(3, s, test(false, x))}, 1, 5)
					if e == api.OK || f == api.OK {
						taken[o]++
					}
				}
			}
		}
	}
	for o, want := range map[int]int{api.XNum: 8, api.XObs: 6, api.XCell: 1, api.XRatio: 4, api.XIf: 2, api.XAdd: 1} {
		if taken[o] != want {
			t.Errorf("operator %d: %d are taken, want %d", o, taken[o], want)
		}
	}
}

// P1001: what stands in an action beside its expressions.
func TestFieldsOfActions(t *testing.T) {
	t.Parallel()
	steps := [][]api.Step{nil, {test(true, below)}, {test(false, below)}, {times(s)}, {give()}, {test(true, below), times(s), give()}, {test(true, s)}, {times(below)},
		{{Kind: api.StepTimes, Want: true, E: s}}, {{Kind: api.StepGive, Want: true}}, {{Kind: api.StepGive, E: s}}, {{Kind: api.StepGive, E: xNum(0)}},
		{{Kind: api.StepGive, E: api.X{Num: 1}}}, {{Kind: api.StepGive, E: api.X{Day: 1}}}, {{Kind: api.StepGive, E: api.X{Kids: []api.X{s}}}},
		{{Kind: api.StepGive, E: api.X{Kids: []api.X{}}}}, {{}}, {{Kind: 4, E: below}}, {{Kind: -1, E: s}}, {{Kind: api.StepTest}}, {{Kind: api.StepTimes}}, {test(true, below), test(false, s)}}
	taken := 0
	for _, list := range steps {
		for kind := -1; kind <= 3; kind++ {
			for _, cur := range []string{"EUR", "", "eur", "EURO", "E1R", "AAA"} {
				for _, cell := range []int{-1 << 63, -1, 0, 1, 2, 1<<63 - 1} {
					for _, e := range []api.X{s, below, xCell(1), {}} {
						a := api.Action{Day: 3, Kind: kind, Steps: list, E: e, Cur: cur, Cell: cell}
						if wantAsPlain(t, []string{"S"}, []api.Action{a}, 2, 5) == api.OK {
							taken++
						}
					}
				}
			}
		}
	}
	// 7 lists for a flow in two currencies, of two amounts; 3 for a set of two cells, of two amounts.
	if taken != 7*2*2+3*2*2 {
		t.Errorf("%d are taken", taken)
	}
}

// P1001: the days of actions.
func TestDaysOfActions(t *testing.T) {
	t.Parallel()
	days := []int{-1 << 63, -1, 0, 1, 4, 5, 6, 1<<63 - 1}
	for _, first := range days {
		for _, second := range days {
			for _, seen := range days {
				actions := []api.Action{pays(first, s), sets(second, 0, op(api.XAdd, s, xObs(0, seen)), test(true, below))}
				e := wantAsPlain(t, []string{"S"}, actions, 1, 5)
				if fits := first >= 0 && first <= second && second <= 5 && seen >= 0 && seen <= second; fits != (e == api.OK) {
					t.Errorf("days %d and %d, looked at %d: %d", first, second, seen, e)
				}
			}
		}
	}
}

// wantValidAsPlain: Valid, Open and Play against the plain reading of the chapter.
func wantValidAsPlain(t *testing.T, n api.Normal, rows [][]api.Cell) api.Errno {
	t.Helper()
	e := dag.Valid(n)
	list, want := plainValid(n)
	if e != want {
		t.Fatalf("Valid(%+v): %d, want %d", n, e, want)
	}
	actions, f := dag.Open(n)
	if f != want || !sameActions(actions, plainOpen(list)) {
		t.Fatalf("Open(%+v): %+v, %d, want %+v, %d", n, actions, f, plainOpen(list), want)
	}
	wantPlayed(t, n, plainOpen(list), rows, want)
	return e
}

// P1002: every operator over all parts that may stand in it or not, reached as a test, as a factor or as an amount.
func TestOperatorsOfNodes(t *testing.T) {
	t.Parallel()
	first := []api.NStep{{Kind: api.StepTimes}, {Kind: api.StepTest, E: 1}}
	taken := map[int]int{}
	parts := []int{-1 << 63, -2, -1, 0, 1, 2, 3, 1<<63 - 1}
	for o := -1; o <= 32; o++ {
		for _, a := range parts {
			for _, b := range parts {
				for _, c := range parts {
					nodes := []api.Node{nS, node(api.XTrue, 0, 0), {Op: o, Num: 0, Day: 0, A: a, B: b, C: c}}
					if o == api.XObs || o == api.XTrue {
						nodes[2].Num = 1
					}
					n := formOf(nodes, normPays(2, first...))
					n.Names = []string{"S", "T"}
					e := wantValidAsPlain(t, n, nil)
					n.Actions[0] = normPays(0, append(first[:2:2], api.NStep{Kind: api.StepTest, Want: true, E: 2})...)
					f := wantValidAsPlain(t, n, nil)
					n.Actions[0] = cut(append(first[:2:2], api.NStep{Kind: api.StepTimes, E: 2})...)
					g := wantValidAsPlain(t, n, nil)
					if (e == api.OK) != (g == api.OK) {
						t.Errorf("%+v as an amount: %d, as a factor: %d", nodes[2], e, g)
					}
					if e == api.OK || f == api.OK {
						taken[o]++
					}
				}
			}
		}
	}
	if len(taken) != len(kidCounts())-1 || taken[api.XAdd] != 1 || taken[api.XIf] != 2 {
		t.Errorf("%v are taken", taken)
	}
}

// P1002: Num and Day of every operator, over parts that it takes.
func TestFieldsOfNodes(t *testing.T) {
	t.Parallel()
	first := []api.NStep{{Kind: api.StepTimes}, {Kind: api.StepTest, E: 1}}
	for o := -1; o <= 32; o++ {
		for _, num := range []int{-1 << 63, -1, 0, 1, 2, 4, 5, 1<<63 - 1} {
			for _, day := range []int{-1 << 63, -1, 0, 1, 3, 4, 5, 6, 1<<63 - 1} {
				for _, kids := range [][]int{nil, {0}, {1}, {0, 0}, {1, 1}, {0, 0, 0}, {1, 0, 0}, {1, 1, 1}} {
					n := formOf([]api.Node{nS, node(api.XTrue, 0, 0), node(o, num, day, kids...)}, normPays(2, first...))
					n.Actions[0].Day = 3
					wantValidAsPlain(t, n, nil)
					n.Actions[0] = normPays(0, append(first[:2:2], api.NStep{Kind: api.StepTest, Want: true, E: 2})...)
					wantValidAsPlain(t, n, nil)
				}
			}
		}
	}
}

// P1002, P1003: what stands in a normal action beside its expressions.
func TestFieldsOfNormalActions(t *testing.T) {
	t.Parallel()
	at := func(kind int, want bool, e int) api.NStep { return api.NStep{Kind: kind, Want: want, E: e} }
	var steps [][]api.NStep
	for kind := -1; kind <= 4; kind++ {
		for _, e := range []int{-1, 0, 1, 2, 3} {
			steps = append(steps, []api.NStep{at(kind, true, e)}, []api.NStep{at(kind, false, e)}, []api.NStep{at(kind, false, e), at(api.StepTest, true, 2)})
		}
	}
	steps = append(steps, nil, []api.NStep{at(api.StepTimes, false, 0), at(api.StepGive, false, 0), at(api.StepTest, false, 2)})
	taken, cuts := 0, 0
	for _, list := range steps {
		for kind := 0; kind <= 3; kind++ {
			for _, cur := range []string{"EUR", "", "eur"} {
				for _, cell := range []int{-1, 0, 1, 2} {
					for _, e := range []int{-2, -1, 0, 1, 2, 3} {
						for _, day := range []int{-1, 0, 1, 6} {
							n := formOf([]api.Node{nS, nNum(1), node(api.XLt, 0, 0, 0, 1)}, api.NAction{Day: day, Kind: kind, Steps: list, E: e, Cur: cur, Cell: cell})
							n.Nodes[0].Day = 1
							n.Cells = 2
							// What reaches all nodes in their order may stand ahead or behind.
							for _, all := range []api.NAction{normPays(0, at(api.StepTest, true, 2)), cut(at(api.StepTest, true, 2))} {
								all.Day = 1
								n.Actions = []api.NAction{all, n.Actions[0]}
								if wantValidAsPlain(t, n, nil) == api.OK {
									taken++
									cuts += map[bool]int{true: 1}[e == -1]
								}
								n.Actions = n.Actions[1:]
							}
							wantValidAsPlain(t, n, nil)
						}
					}
				}
			}
		}
	}
	if taken == cuts || cuts == 0 {
		t.Errorf("%d are taken, %d of them cut", taken, cuts)
	}
}
