package lower_test

import (
	"math/rand"
	"slices"
	"testing"

	"payoff/api"
)

// reading goes through a day's code as its form says it, and notes where each node's own code begins.
type reading struct {
	t      *testing.T
	n      api.Normal
	kept   []int // by slot
	code   []api.Instr
	at     int
	begins map[int][]int // by node
}

// pass passes an instruction of one of these kinds.
func (r *reading) pass(ops ...int) {
	r.t.Helper()
	if !slices.Contains(ops, r.code[r.at].Op) {
		r.t.Fatalf("instruction %d is %v, want one of %v: %v", r.at, r.code[r.at], ops, r.code)
	}
	r.at++
}

// ofSlot tells whether the next instruction is that one of the node's slot.
func (r *reading) ofSlot(op, node int) bool {
	i := r.code[r.at]
	return i.Op == op && r.kept[i.A] == node
}

func (r *reading) value(node int) {
	r.t.Helper()
	if r.ofSlot(api.OpGet, node) {
		r.at++
		return
	}
	r.begins[node] = append(r.begins[node], r.at)
	x := r.n.Nodes[node]
	switch x.Op {
	case api.XAnd:
		r.value(x.A)
		r.pass(api.OpZero)
		r.value(x.B)
		r.pass(api.OpJump)
		r.pass(api.OpBool)
	case api.XOr:
		r.value(x.A)
		r.pass(api.OpZero)
		r.pass(api.OpBool)
		r.pass(api.OpJump)
		r.value(x.B)
	case api.XIf:
		r.value(x.A)
		r.pass(api.OpZero)
		r.value(x.B)
		r.pass(api.OpJump)
		r.value(x.C)
	default:
		for _, kid := range []int{x.A, x.B, x.C} {
			if kid >= 0 {
				r.value(kid)
			}
		}
		r.at++
	}
	if r.ofSlot(api.OpKeep, node) {
		r.at++
	}
}

func (r *reading) action(a api.NAction) {
	r.t.Helper()
	for _, s := range a.Steps {
		if s.Kind != api.StepGive {
			r.value(s.E)
		}
		if s.Kind == api.StepTest && !s.Want {
			r.pass(api.OpNot)
		}
		if s.Kind == api.StepTest {
			r.pass(api.OpZero)
		}
	}
	if a.E >= 0 {
		r.value(a.E)
		for r.code[r.at].Op == api.OpMul || r.code[r.at].Op == api.OpNeg {
			r.at++
		}
		r.pass(api.OpFlow, api.OpStore)
		if r.code[r.at].Op == api.OpJump {
			r.at++
		}
	}
	for r.code[r.at].Op == api.OpDrop {
		r.at++
	}
}

// read reads the code of a day.
func read(t *testing.T, n api.Normal, s api.Segment) *reading {
	t.Helper()
	r := &reading{t: t, n: n, kept: keptOn(t, n, s.Day), code: s.Code, begins: map[int][]int{}}
	for _, a := range n.Actions {
		if a.Day == s.Day {
			r.action(a)
		}
	}
	r.pass(api.OpEnd)
	if r.at != len(r.code) {
		t.Fatalf("instructions behind %d: %v", r.at, r.code)
	}
	return r
}

// reachedPast tells whether some way leads to a place that passes none of the others.
func reachedPast(code []api.Instr, place int, others []int) bool {
	come := make([]bool, len(code)+1)
	come[0] = true
	for at, i := range code[:place] {
		if !come[at] || slices.Contains(others, at) {
			continue
		}
		if i.Op == api.OpJump || i.Op == api.OpZero {
			come[at+1+i.A] = true
		}
		if i.Op != api.OpJump {
			come[at+1] = true
		}
	}
	return come[place]
}

// wantOnce holds P1704 for a form: wherever a node is worked out, some way leads there on which it was not. It tells how often one is worked out again.
func wantOnce(t *testing.T, n api.Normal) (again int) {
	t.Helper()
	for _, s := range lowered(t, n, true).Days {
		for node, begins := range read(t, n, s).begins {
			if !plainShareable(n, node) {
				continue
			}
			again += len(begins) - 1
			for k, place := range begins {
				if !reachedPast(s.Code, place, slices.Delete(slices.Clone(begins), k, k+1)) {
					t.Fatalf("node %d is worked out at %v, at %d once more on all ways: %v", node, begins, place, s.Code)
				}
			}
		}
	}
	return again
}

// P1704: forms by chance.
func TestOnce(t *testing.T) {
	t.Parallel()
	chance := rand.New(rand.NewSource(177))
	again := 0
	for range 4000 {
		again += wantOnce(t, someForm(t, chance))
	}
	for range 1000 {
		again += wantOnce(t, formOfDeal(t, chance))
	}
	if again < 500 {
		t.Errorf("%d times alone a node was worked out again", again)
	}
}

// forks: whether there is more than one way through a day's code of a form.
func forks(n api.Normal) bool {
	return slices.ContainsFunc(n.Nodes, func(x api.Node) bool { return x.Op == api.XAnd || x.Op == api.XOr || x.Op == api.XIf }) ||
		slices.ContainsFunc(n.Actions, func(a api.NAction) bool {
			return slices.ContainsFunc(a.Steps, func(s api.NStep) bool { return s.Kind == api.StepTest })
		})
}

// P1704: where there is but one way, all is worked out once.
func TestOnceOnOneWay(t *testing.T) {
	t.Parallel()
	chance := rand.New(rand.NewSource(178))
	straight, gets := 0, 0
	for range 8000 {
		n := someForm(t, chance)
		if forks(n) {
			continue
		}
		straight++
		if again := wantOnce(t, n); again != 0 {
			t.Fatalf("%d times again: %+v", again, n)
		}
		gets += count(lowered(t, n, true), api.OpGet)
	}
	if straight < 500 || gets < 200 {
		t.Errorf("%d forms, %d gets", straight, gets)
	}
}
