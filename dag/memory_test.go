package dag_test

import (
	"cmp"
	"math/rand"
	"reflect"
	"slices"
	"testing"

	"payoff/api"
	"payoff/dag"
	"payoff/legs"
	"payoff/sample"
)

// room is the memory of a list, its spare room included.
type room struct{ from, to uintptr }

// rooms: the memory of all lists of a value.
func rooms(v reflect.Value) []room {
	var all []room
	switch v.Kind() {
	case reflect.Struct:
		for i := range v.NumField() {
			all = append(all, rooms(v.Field(i))...)
		}
	case reflect.Slice:
		if size := v.Type().Elem().Size() * uintptr(v.Cap()); size > 0 {
			all = append(all, room{v.Pointer(), v.Pointer() + size})
		}
		for i := range v.Len() {
			all = append(all, rooms(v.Index(i))...)
		}
	}
	return all
}

// wantApart: no two lists of these share memory.
func wantApart(t *testing.T, what string, values ...any) {
	t.Helper()
	var all []room
	for _, v := range values {
		all = append(all, rooms(reflect.ValueOf(v))...)
	}
	slices.SortFunc(all, func(a, b room) int { return cmp.Compare(a.from, b.from) })
	for i := range all[min(1, len(all)):] {
		if all[i].to > all[i+1].from {
			t.Fatalf("two lists share memory: %s", what)
		}
	}
}

// wantUnchanged: a call leaves values as they are, with their lists' spare room.
func wantUnchanged(t *testing.T, what string, call func(), values ...any) {
	t.Helper()
	var before []any
	for _, v := range values {
		before = append(before, copiedValue(reflect.ValueOf(v), true).Interface())
	}
	call()
	for i, v := range values {
		if !reflect.DeepEqual(before[i], copiedValue(reflect.ValueOf(v), true).Interface()) {
			t.Fatalf("what was handed in has changed: %s", what)
		}
	}
}

// spare gives a list spare room, with something in it.
func spare[T any](list []T, mark T) []T {
	return append(append(make([]T, 0, len(list)+2), list...), mark)[:len(list)]
}

func spareX(x api.X) api.X {
	x.Kids = spare(x.Kids, xNum(77))
	for i := range x.Kids {
		x.Kids[i] = spareX(x.Kids[i])
	}
	return x
}

// spareTask gives each list of what Norm is called with spare room.
func spareTask(made task) task {
	made.names = spare(made.names, "Z")
	made.actions = spare(made.actions, pays(0, xNum(77)))
	for i := range made.actions {
		a := &made.actions[i]
		a.E, a.Steps = spareX(a.E), spare(a.Steps, give())
		for j := range a.Steps {
			a.Steps[j].E = spareX(a.Steps[j].E)
		}
	}
	return made
}

// spareForm gives each list of a form spare room.
func spareForm(n api.Normal) api.Normal {
	n.Names, n.Nodes, n.Actions = spare(n.Names, "Z"), spare(n.Nodes, nNum(77)), spare(n.Actions, normPays(0))
	for i := range n.Actions {
		n.Actions[i].Steps = spare(n.Actions[i].Steps, api.NStep{Kind: api.StepGive})
	}
	return n
}

// P1007: what is handed in stays as it is, and no list of an answer shares memory with it, with another answer's, or with one of its own.
func TestMemory(t *testing.T) {
	t.Parallel()
	chance := rand.New(rand.NewSource(107))
	for range 2000 {
		made := spareTask(someTask(chance))
		var forms []api.Normal
		wantUnchanged(t, "Norm", func() {
			for _, fold := range []bool{true, false, true, false} {
				n, _ := dag.Norm(made.names, made.actions, made.cells, made.horizon, fold)
				forms = append(forms, n)
			}
		}, made.names, made.actions)
		wantApart(t, "Norm", made.names, made.actions, forms)
		for _, n := range forms[:2] {
			n = spareForm(n)
			rows := sample.Rows(chance.Intn, 4, 3)
			wantUnchanged(t, "Valid, Open, Play", func() {
				dag.Valid(n)
				one, _ := dag.Open(n)
				two, _ := dag.Open(n)
				wantApart(t, "Open", n, one, two)
				first, _ := dag.Play(n, rows)
				second, _ := dag.Play(n, rows)
				wantApart(t, "Play", n, rows, first, second)
			}, n, rows)
		}
	}
}

// spoilAll writes over all that lies in the lists of a form.
func spoilAll(n api.Normal) {
	for i := range n.Actions {
		for j := range n.Actions[i].Steps {
			n.Actions[i].Steps[j] = api.NStep{Kind: 9}
		}
		n.Actions[i] = api.NAction{Kind: 9}
	}
	for i := range n.Nodes {
		n.Nodes[i] = api.Node{}
	}
	for i := range n.Names {
		n.Names[i] = "z"
	}
}

// P1007, DOC.md: nothing is kept from one call to the next: what was answered, or handed in, may be written over.
func TestNothingIsKept(t *testing.T) {
	t.Parallel()
	made := task{[]string{"S"}, []api.Action{pays(0, op(api.XAdd, op(api.XMul, s, s), xNum(2)), times(s), test(true, below))}, 1, 5}
	want, _ := plainNorm(made.names, made.actions, made.cells, made.horizon, true)
	for range 3 {
		n, e := dag.Norm(made.names, made.actions, made.cells, made.horizon, true)
		if e != api.OK || !sameNormal(n, want) {
			t.Fatalf("Norm: %+v, %d, want %+v", n, e, want)
		}
		rows := [][]api.Cell{{{Has: true, V: -3}}}
		out, _ := dag.Play(n, rows)
		played, _ := legs.Play(made.actions, made.cells, rows)
		actions, _ := dag.Open(n)
		spoilAll(n)
		if !sameActions(actions, made.actions) || !sameOutcome(out, played) || len(out.Flows) != 1 {
			t.Fatalf("Open: %+v; Play: %+v, want %+v", actions, out, played)
		}
	}
}
