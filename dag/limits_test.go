package dag_test

import (
	"reflect"
	"slices"
	"strconv"
	"strings"
	"testing"

	"payoff/api"
	"payoff/dag"
	"payoff/legs"
)

// chain: an expression of just that many nodes, nested as deep as that lets it be with two kids each.
func chain(nodes int) api.X {
	e := s
	for range (nodes - 1) / 2 {
		e = op(api.XAdd, e, xNum(0))
	}
	if nodes%2 == 0 {
		e = op(api.XNeg, e)
	}
	return e
}

// nested: an expression under so many operators of one kid.
func nested(operator int, inner api.X, times int) api.X {
	for range times {
		inner = op(operator, inner)
	}
	return inner
}

// wantTaken: actions that Norm takes, with and without fold, and what it gives is valid.
func wantTaken(t *testing.T, what string, actions ...api.Action) {
	t.Helper()
	for _, fold := range []bool{true, false} {
		n, e := dag.Norm([]string{"S"}, actions, 1, 5, fold)
		if e != api.OK || dag.Valid(n) != api.OK {
			t.Errorf("Norm of %s, fold %v: %d; Valid: %d", what, fold, e, dag.Valid(n))
		}
	}
}

// P1001: the weight, at its limit and beyond it.
func TestWeights(t *testing.T) {
	wantTaken(t, "16382 nodes", pays(0, chain(16382)))
	wantRefused(t, "16383 nodes", api.ErrLong, pays(0, chain(16383)))
	wantTaken(t, "16379 nodes and a factor", pays(0, chain(16379), times(xNum(1)), give()))
	wantRefused(t, "16380 nodes and a factor", api.ErrLong, pays(0, chain(16380), times(xNum(1)), give()))
	wantTaken(t, "a test of 16380 nodes", pays(0, xNum(1), test(true, op(api.XLt, chain(16378), xNum(1)))))
	wantRefused(t, "a test of 16381 nodes", api.ErrLong, pays(0, xNum(1), test(true, op(api.XLt, chain(16379), xNum(1)))))

	steps := slices.Repeat([]api.Step{give()}, 16381)
	wantTaken(t, "16381 turns", pays(0, s, steps...))
	wantRefused(t, "16382 turns", api.ErrLong, pays(0, s, append(steps, give())...))

	var many []api.Action
	for i := range 2048 {
		many = append(many, pays(i/1000, chain(6)))
	}
	wantTaken(t, "2048 actions of 8", many...)
	many[2047].E = chain(7)
	wantRefused(t, "16385 in all", api.ErrLong, many...)
	wantRefused(t, "2049 actions", api.ErrLong, append(many, pays(5, s))...)
}

// doubled: an expression of more nodes than could be counted.
func doubled() api.X {
	e := s
	for range 100 {
		e = op(api.XAdd, e, e)
	}
	return e
}

// looped: an expression that stands in itself, as its first kid.
func looped(operator, kids int) api.X {
	list := make([]api.X, kids)
	list[0] = op(operator, list...)
	return list[0]
}

// P1001, P1007: small lists that say huge trees; a turned sign's expression weighs nothing, and is not looked at.
func TestHugeTrees(t *testing.T) {
	for i, e := range []api.X{doubled(), looped(api.XNeg, 1), looped(api.XAdd, 2), op(api.XIf, op(api.XTrue), s, doubled())} {
		what := "a huge tree, " + strconv.Itoa(i)
		wantRefused(t, what, api.ErrLong, pays(0, e))
		wantRefused(t, what+", as a test", api.ErrLong, pays(0, s, test(true, e)))
		wantRefused(t, what+", as a factor", api.ErrLong, pays(0, s, times(e)))
		wantRefused(t, what+", in a step of no kind", api.ErrLong, pays(0, s, api.Step{Kind: 4, E: e}))
		wantRefused(t, what+", with a turned sign", api.ErrArg, pays(0, s, api.Step{Kind: api.StepGive, E: e}))
	}
}

// P1001: which error comes first.
func TestLongIsAheadOfWrong(t *testing.T) {
	wrong := pays(-1, op(api.XTrue), api.Step{Kind: 9})
	wantRefused(t, "wrong actions, too many", api.ErrLong, slices.Repeat([]api.Action{wrong}, 2049)...)
	wantRefused(t, "a wrong action and a great one", api.ErrLong, wrong, pays(0, chain(16383)))
	if _, e := dag.Norm([]string{"s"}, []api.Action{pays(0, chain(16383))}, -1, -1, true); e != api.ErrLong {
		t.Errorf("wrong arguments with a great action: %d", e)
	}
	n := formOf(slices.Repeat([]api.Node{{}}, 16385))
	n.Names, n.Cells = []string{"s"}, -1
	wantValid(t, "16385 wrong nodes", n, api.ErrLong)
	wantValid(t, "16384 wrong nodes", formOf(n.Nodes[1:]), api.ErrArg)
	wantValid(t, "2049 wrong actions", formOf(nil, make([]api.NAction, 2049)...), api.ErrLong)
	wantValid(t, "2048 wrong actions", formOf(nil, make([]api.NAction, 2048)...), api.ErrArg)
}

// frames: names, cells and horizons, and whether they are taken.
func frames() map[*api.Normal]bool {
	var names []string
	for i := range 64 {
		names = append(names, "N"+strconv.Itoa(i))
	}
	long := strings.Repeat("N", 31)
	return map[*api.Normal]bool{
		{}: true, {Names: names}: true, {Names: append(slices.Clip(names), "M")}: false,
		{Names: []string{"S"}}: true, {Names: []string{"S", "T", "S"}}: false, {Names: []string{"S", "S"}}: false,
		{Names: []string{"s"}}: false, {Names: []string{""}}: false, {Names: []string{"A", "B", "1"}}: false, {Names: []string{"B", "A"}}: true,
		{Names: []string{"A_1"}}: true, {Names: []string{"A-1"}}: false, {Names: []string{"A\xff"}}: false,
		{Names: []string{long}}: true, {Names: []string{long + "N"}}: false,
		{Cells: 512}: true, {Cells: 513}: false, {Cells: -1}: false, {Cells: -1 << 63}: false, {Cells: 1<<63 - 1}: false,
		{Horizon: 3660}: true, {Horizon: 3661}: false, {Horizon: -1}: false, {Horizon: -1 << 63}: false, {Horizon: 1<<63 - 1}: false,
	}
}

// P1001, P1002
func TestFrames(t *testing.T) {
	for n, taken := range frames() {
		for _, actions := range [][]api.Action{nil, {pays(0, xNum(1))}} {
			var want api.Errno
			if !taken {
				want = api.ErrArg
			}
			got, e := dag.Norm(n.Names, actions, n.Cells, n.Horizon, len(actions) > 0)
			if e != want || taken && (!slices.Equal(got.Names, n.Names) || got.Cells != n.Cells || got.Horizon != n.Horizon || len(got.Actions) != len(actions)) {
				t.Errorf("Norm(%v, %d, %d): %+v, %d, want %d", n.Names, n.Cells, n.Horizon, got, e, want)
			}
			if !taken && !reflect.DeepEqual(got, api.Normal{}) {
				t.Errorf("Norm(%v, %d, %d): %+v beside an error", n.Names, n.Cells, n.Horizon, got)
			}
		}
		form := *n
		for range 2 {
			if e := dag.Valid(form); (e == api.OK) != taken || !taken && e != api.ErrArg {
				t.Errorf("Valid(%+v): %d", form, e)
			}
			form.Nodes, form.Actions = []api.Node{nNum(1)}, []api.NAction{normPays(0)}
		}
	}
}

// P1001, P1003: the last cell, the last day, the last name.
func TestLastOfEach(t *testing.T) {
	var names []string
	for i := range 64 {
		names = append(names, "N"+strconv.Itoa(i))
	}
	actions := []api.Action{sets(3660, 511, op(api.XAdd, xObs(63, 3660), xCell(511)))}
	n, e := dag.Norm(names, actions, 512, 3660, true)
	back, f := dag.Open(n)
	if e != api.OK || f != api.OK || !sameActions(back, actions) {
		t.Errorf("%+v, %d; opened %+v, %d", n, e, back, f)
	}
	for _, a := range []api.Action{sets(3661, 0, s), sets(3660, 512, s), sets(3660, 0, xObs(64, 0)), sets(3660, 0, xObs(0, 3661)), sets(3660, 0, xCell(512))} {
		if _, e := dag.Norm(names, []api.Action{a}, 512, 3660, true); e != api.ErrArg {
			t.Errorf("Norm(%+v): %d", a, e)
		}
	}
}

// P1002: the weight of a form, at its limit and beyond it. A tower of 12 says 8191 nodes.
func TestWeightsOfForms(t *testing.T) {
	turns := slices.Repeat([]api.NStep{{Kind: api.StepGive}}, 8192)
	n := tower(12)
	n.Actions[0].Steps = turns[:8191]
	wantValid(t, "a weight of 16384", n, api.OK)
	n.Actions[0].Steps = turns
	wantValid(t, "a weight of 16385", n, api.ErrLong)
	wantValid(t, "a tower of 13", tower(13), api.ErrLong)
	n = tower(12)
	n.Actions = append(n.Actions, n.Actions[0])
	wantValid(t, "a tower of 12 twice", n, api.ErrLong)

	n.Actions = []api.NAction{cut(slices.Repeat([]api.NStep{{Kind: api.StepTimes}}, 4096)...)}
	n.Actions[0].Steps[4095].E = 12
	wantValid(t, "a cut of 16384", n, api.OK)
	n.Actions = append(n.Actions, cut(api.NStep{Kind: api.StepTimes}))
	wantValid(t, "cuts of 16388", n, api.ErrLong)
}

// P1002: towers beyond all counting; what is wrong with one is told ahead of how much it says.
func TestTowers(t *testing.T) {
	n := tower(16383)
	wantValid(t, "a tower of 16383", n, api.ErrLong)
	n.Actions[0].Cur = "eur"
	wantValid(t, "a tower of 16383 in eur", n, api.ErrArg)
	n = tower(16383)
	n.Nodes[0].Day = 1
	wantValid(t, "a tower on a day ahead", n, api.ErrArg)
	n = tower(100)
	n.Actions[0].E = 99
	wantValid(t, "a tower whose top nothing reaches", n, api.ErrArg)
	n = tower(16383)
	slices.Reverse(n.Nodes)
	wantValid(t, "a tower on its head", n, api.ErrArg)
}

// P1001 to P1005, P1007: expressions nested as deep as their weight lets them be.
func TestDeepExpressions(t *testing.T) {
	rows := [][]api.Cell{{{Has: true, V: 9}}}
	for _, c := range []struct {
		e      api.X
		folded int
	}{{nested(api.XNeg, s, 16381), 16382}, {nested(api.XAbs, xNum(-3), 16381), 1}, {chain(16381), 8192}} {
		actions := []api.Action{pays(0, c.e)}
		for _, fold := range []bool{true, false} {
			n, e := dag.Norm([]string{"S"}, actions, 1, 5, fold)
			if e != api.OK || fold && len(n.Nodes) != c.folded {
				t.Errorf("%d nodes, %d, want %d", len(n.Nodes), e, c.folded)
			}
			got, e := dag.Play(n, rows)
			want, _ := legs.Play(actions, 1, rows)
			if e != api.OK || len(got.Flows) != 1 || !sameOutcome(got, want) {
				t.Errorf("Play: %+v, %d, want %+v", got, e, want)
			}
		}
	}
	truth := nested(api.XNot, below, 16376)
	wantTaken(t, "16376 nots", pays(0, xNum(1), test(true, truth)))
	choice := s
	for range 5460 {
		choice = op(api.XIf, op(api.XFalse), xNum(1), choice)
	}
	wantNorm(t, true, []api.Action{pays(0, choice)}, formOf([]api.Node{nS}, normPays(0)))
}
