package dag_test

import (
	"reflect"
	"testing"

	"payoff/api"
	"payoff/dag"
)

func op(op int, kids ...api.X) api.X { return api.X{Op: op, Kids: kids} }

func xNum(n int) api.X { return api.X{Op: api.XNum, Num: n} }

func xObs(observable, day int) api.X { return api.X{Op: api.XObs, Num: observable, Day: day} }

func xCell(n int) api.X { return api.X{Op: api.XCell, Num: n} }

func pays(day int, e api.X, steps ...api.Step) api.Action {
	return api.Action{Day: day, Kind: api.ActFlow, Cur: "EUR", E: e, Steps: steps}
}

func sets(day, cell int, e api.X, steps ...api.Step) api.Action {
	return api.Action{Day: day, Kind: api.ActSet, Cell: cell, E: e, Steps: steps}
}

func test(want bool, e api.X) api.Step { return api.Step{Kind: api.StepTest, Want: want, E: e} }

func times(e api.X) api.Step { return api.Step{Kind: api.StepTimes, E: e} }

func give() api.Step { return api.Step{Kind: api.StepGive} }

// node: a node with those kids.
func node(op, num, day int, kids ...int) api.Node {
	n := api.Node{Op: op, Num: num, Day: day, A: -1, B: -1, C: -1}
	for i, kid := range kids {
		*[]*int{&n.A, &n.B, &n.C}[i] = kid
	}
	return n
}

func nNum(n int) api.Node { return node(api.XNum, n, 0) }

// normPays: a normal action of day 0.
func normPays(e int, steps ...api.NStep) api.NAction {
	return api.NAction{Kind: api.ActFlow, Cur: "EUR", E: e, Steps: steps}
}

// cut: a cut action of day 0.
func cut(steps ...api.NStep) api.NAction {
	return api.NAction{Kind: api.ActFlow, E: -1, Steps: steps}
}

// formOf: a form of the examples: names [S], cells 1, horizon 5.
func formOf(nodes []api.Node, actions ...api.NAction) api.Normal {
	return api.Normal{Names: []string{"S"}, Nodes: nodes, Actions: actions, Cells: 1, Horizon: 5}
}

func wantNorm(t *testing.T, fold bool, actions []api.Action, want api.Normal) {
	t.Helper()
	n, e := dag.Norm([]string{"S"}, actions, 1, 5, fold)
	if e != api.OK || !sameNormal(n, want) {
		t.Errorf("Norm(%+v, fold %v): %+v, %d, want %+v", actions, fold, n, e, want)
	}
	if e := dag.Valid(n); e != api.OK {
		t.Errorf("Valid of what Norm gives to %+v, fold %v: %d", actions, fold, e)
	}
}

// wantBoth: the nodes of a flow of an expression, with and without fold; the last is its number.
func wantBoth(t *testing.T, e api.X, folded, whole []api.Node) {
	t.Helper()
	wantNorm(t, true, []api.Action{pays(0, e)}, formOf(folded, normPays(len(folded)-1)))
	wantNorm(t, false, []api.Action{pays(0, e)}, formOf(whole, normPays(len(whole)-1)))
}

func wantRefused(t *testing.T, what string, want api.Errno, actions ...api.Action) {
	t.Helper()
	for _, fold := range []bool{true, false} {
		if n, e := dag.Norm([]string{"S"}, actions, 1, 5, fold); e != want || !reflect.DeepEqual(n, api.Normal{}) {
			t.Errorf("Norm of %s: %d with %d nodes, want error %d", what, e, len(n.Nodes), want)
		}
	}
}

// wantValid: what Valid answers; and Open and Play with it, if that is an error.
func wantValid(t *testing.T, what string, n api.Normal, want api.Errno) {
	t.Helper()
	if e := dag.Valid(n); e != want {
		t.Errorf("Valid of %s: %d, want %d", what, e, want)
	}
	actions, e := dag.Open(n)
	out, f := dag.Play(n, nil)
	if e != want || f != want || want != api.OK && (len(actions) > 0 || !reflect.DeepEqual(out, api.Outcome{})) {
		t.Errorf("Open and Play of %s: %d and %d, want %d", what, e, f, want)
	}
}

var (
	s       = xObs(0, 0)
	nS      = node(api.XObs, 0, 0)
	divZero = op(api.XDiv, xNum(1), xNum(0))
	below   = op(api.XLt, s, xNum(1))
)

// The chapter's examples. P1001
func TestExample1(t *testing.T) {
	square := op(api.XMul, s, s)
	nodes := []api.Node{nS, node(api.XMul, 0, 0, 0, 0), node(api.XAdd, 0, 0, 1, 1)}
	wantBoth(t, op(api.XAdd, square, square), nodes, nodes)
}

// P1001
func TestExample2(t *testing.T) {
	wantBoth(t, op(api.XAdd, xNum(2), xNum(3)), []api.Node{nNum(5)}, []api.Node{nNum(2), nNum(3), node(api.XAdd, 0, 0, 0, 1)})
	bad := []api.Node{nNum(1), nNum(0), node(api.XDiv, 0, 0, 0, 1)}
	wantBoth(t, divZero, bad, bad)
	wantBoth(t, op(api.XIf, op(api.XLt, xNum(1), xNum(2)), s, divZero), []api.Node{nS}, []api.Node{
		nNum(1), nNum(2), node(api.XLt, 0, 0, 0, 1), nS, nNum(0), node(api.XDiv, 0, 0, 0, 4), node(api.XIf, 0, 0, 2, 3, 5)})
	once := []api.Node{nS, nNum(1), node(api.XMul, 0, 0, 0, 1)}
	wantBoth(t, op(api.XMul, s, xNum(1)), once, once)
}

// P1001, P1002, P1003
func TestExample3(t *testing.T) {
	steps := []api.Step{times(s), give(), test(true, op(api.XFalse))}
	nTimes, nGive := api.NStep{Kind: api.StepTimes}, api.NStep{Kind: api.StepGive}
	wantNorm(t, true, []api.Action{pays(0, xNum(7), steps...)}, formOf([]api.Node{nS}, cut(nTimes)))
	wantNorm(t, true, []api.Action{pays(0, xNum(7), steps[1:]...)}, formOf(nil))
	steps[2].Want = false
	wantNorm(t, true, []api.Action{pays(0, xNum(7), steps...)}, formOf([]api.Node{nS, nNum(7)}, normPays(1, nTimes, nGive)))
	opened, e := dag.Open(formOf([]api.Node{nS}, cut(nTimes)))
	want := api.Action{Kind: api.ActFlow, Cur: "AAA", Steps: []api.Step{times(s), test(true, op(api.XFalse))}, E: xNum(0)}
	if e != api.OK || !sameActions(opened, []api.Action{want}) {
		t.Errorf("Open: %+v, %d, want %+v", opened, e, want)
	}
}

// P1001
func TestExample4(t *testing.T) {
	nBelow := []api.Node{nS, nNum(1), node(api.XLt, 0, 0, 0, 1)}
	wantNorm(t, true, []api.Action{pays(0, xNum(1), test(true, op(api.XAnd, op(api.XTrue), below)))},
		formOf(nBelow, normPays(1, api.NStep{Kind: api.StepTest, Want: true, E: 2})))
	wantNorm(t, true, []api.Action{pays(0, xNum(1), test(true, op(api.XAnd, below, op(api.XTrue))))},
		formOf(append(nBelow, node(api.XTrue, 0, 0), node(api.XAnd, 0, 0, 2, 3)), normPays(1, api.NStep{Kind: api.StepTest, Want: true, E: 4})))
}

// P1001
func TestExample5(t *testing.T) {
	wantRefused(t, "true + 1", api.ErrArg, pays(0, op(api.XAdd, op(api.XTrue), xNum(1))))
	wantRefused(t, "an observable that is none", api.ErrArg, pays(0, xObs(1, 0)))
	wantRefused(t, "a day ahead", api.ErrArg, pays(0, xObs(0, 1)))
	wantRefused(t, "a cell that is none", api.ErrArg, pays(0, xCell(1)))
	wantRefused(t, "a day", api.ErrArg, pays(0, op(api.XDay)))
	wantRefused(t, "a set with a factor", api.ErrArg, sets(0, 0, xNum(1), times(s)))
	eur := pays(0, xNum(1))
	eur.Cur = "eur"
	wantRefused(t, "eur", api.ErrArg, eur)
	wantRefused(t, "days that fall", api.ErrArg, pays(3, xNum(1)), pays(2, xNum(1)))
	wantRefused(t, "2049 actions", api.ErrLong, make([]api.Action, 2049)...)
	wantRefused(t, "16383 nodes", api.ErrLong, pays(0, chain(16383)))
}

// P1002
func TestExample6(t *testing.T) {
	sum := node(api.XAdd, 0, 0, 0, 1)
	wantValid(t, "3 + 5", formOf([]api.Node{nNum(3), nNum(5), sum}, normPays(2)), api.OK)
	wantValid(t, "3 + 5 with 5 first", formOf([]api.Node{nNum(5), nNum(3), node(api.XAdd, 0, 0, 1, 0)}, normPays(2)), api.ErrArg)
	wantValid(t, "a node that nothing reaches", formOf([]api.Node{nNum(3), nNum(5), sum, nNum(7)}, normPays(2)), api.ErrArg)
	wantValid(t, "two like nodes", formOf([]api.Node{nNum(3), nNum(3), sum}, normPays(2)), api.ErrArg)
}

// tower: so many times the sum of the node ahead with itself.
func tower(levels int) api.Normal {
	nodes := []api.Node{nS}
	for i := range levels {
		nodes = append(nodes, node(api.XAdd, 0, 0, i, i))
	}
	return formOf(nodes, normPays(levels))
}

// P1002
func TestExample7(t *testing.T) {
	wantValid(t, "a tower", tower(20), api.ErrLong)
}
