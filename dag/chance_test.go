package dag_test

import (
	"math/rand"
	"reflect"
	"slices"
	"testing"

	"payoff/api"
	"payoff/dag"
	"payoff/legs"
	"payoff/sample"
)

// task: what Norm is called with.
type task struct {
	names          []string
	actions        []api.Action
	cells, horizon int
}

func someTask(chance *rand.Rand) task {
	made := task{names: []string{"A", "B1", "C_"}[:chance.Intn(4)], cells: chance.Intn(3), horizon: chance.Intn(6)}
	made.actions = sample.Actions(chance.Intn, len(made.names), made.cells, made.horizon)
	return made
}

// copied: a value with all of its lists made anew, the spare room and what lies there too.
func copied[T any](v T) T {
	return copiedValue(reflect.ValueOf(&v).Elem(), false).Interface().(T)
}

// copiedValue: likewise; if wide, the spare room is a part of the lists.
func copiedValue(v reflect.Value, wide bool) reflect.Value {
	out := reflect.New(v.Type()).Elem()
	out.Set(v)
	switch v.Kind() {
	case reflect.Struct:
		for i := range v.NumField() {
			out.Field(i).Set(copiedValue(v.Field(i), wide))
		}
	case reflect.Slice:
		list := reflect.MakeSlice(v.Type(), 0, v.Cap())
		for i := range v.Cap() {
			list = reflect.Append(list, copiedValue(v.Slice(0, v.Cap()).Index(i), wide))
		}
		if !wide {
			list = list.Slice(0, v.Len())
		}
		out.Set(list)
	}
	return out
}

// expressions: all expressions of an action, and all that stand in them.
func expressions(a *api.Action) []*api.X {
	all := []*api.X{&a.E}
	for i := range a.Steps {
		all = append(all, &a.Steps[i].E)
	}
	for next := 0; next < len(all); next++ {
		for i := range all[next].Kids {
			all = append(all, &all[next].Kids[i])
		}
	}
	return all
}

func pick[T any](chance *rand.Rand, list ...T) T { return list[chance.Intn(len(list))] }

// spoilX changes one thing of an expression.
func spoilX(chance *rand.Rand, x *api.X) {
	switch chance.Intn(6) {
	case 0:
		x.Op = chance.Intn(34) - 1
	case 1:
		x.Num += pick(chance, -1, 1, 5)
	case 2:
		x.Day += pick(chance, -1, 1)
	case 3:
		x.Kids = append(x.Kids, pick(chance, xNum(1), op(api.XTrue)))
	case 4:
		x.Kids = x.Kids[:chance.Intn(len(x.Kids)+1)]
	case 5:
		*x = pick(chance, xNum(3), op(api.XFalse), xObs(0, 0), xCell(0), op(api.XDay), api.X{})
	}
}

// spoil changes one thing of what Norm is called with; it may still be right.
func spoil(chance *rand.Rand, made *task) {
	if len(made.actions) == 0 {
		made.horizon, made.cells = pick(chance, -1, 0, 3660, 3661), pick(chance, -1, 512, 513)
		return
	}
	a := &made.actions[chance.Intn(len(made.actions))]
	switch chance.Intn(12) {
	case 0:
		a.Day += pick(chance, -1, 1, 2)
	case 1:
		a.Kind = pick(chance, 0, 1, 2, 3)
	case 2:
		a.Cur = pick(chance, "", "EUR", "eur", "EURO")
	case 3:
		a.Cell += pick(chance, -1, 1)
	case 4:
		a.Steps = append(a.Steps, pick(chance, give(), times(xNum(1)), test(true, op(api.XTrue)), test(true, xNum(1)), times(op(api.XTrue)), api.Step{Kind: 4}))
	case 5:
		for i := range a.Steps {
			a.Steps[i].Want = !a.Steps[i].Want
		}
	case 6:
		made.names = pick(chance, []string{"A", "A"}, []string{"a"}, []string{""}, []string{"B", "A"}, nil)
	case 7:
		made.cells = pick(chance, -1, 0, 1, 512, 513)
	case 8:
		made.horizon = pick(chance, -1, 0, 2, 3660, 3661)
	default:
		spoilX(chance, pick(chance, expressions(a)...))
	}
}

// P1001: actions by chance, right and wrong, against the plain reading of the chapter.
func TestActionsByChance(t *testing.T) {
	t.Parallel()
	chance := rand.New(rand.NewSource(101))
	errors := map[api.Errno]int{}
	for range 12000 {
		made := someTask(chance)
		if chance.Intn(2) == 0 {
			made = task{made.names, copied(made.actions), made.cells, made.horizon}
			spoil(chance, &made)
		}
		errors[wantAsPlain(t, made.names, made.actions, made.cells, made.horizon)]++
	}
	if errors[api.OK] < 3000 || errors[api.ErrArg] < 3000 {
		t.Errorf("the errors have come so often: %v", errors)
	}
}

// wantPlayed: what a form comes to, held against actions.
func wantPlayed(t *testing.T, n api.Normal, actions []api.Action, rows [][]api.Cell, want api.Errno) api.Outcome {
	t.Helper()
	out, e := dag.Play(n, rows)
	if want != api.OK {
		if e != want || !reflect.DeepEqual(out, api.Outcome{}) {
			t.Fatalf("Play(%+v): %+v, %d, want %d", n, out, e, want)
		}
		return out
	}
	played, f := legs.Play(actions, n.Cells, rows)
	if e != api.OK || f != api.OK || !sameOutcome(out, played) {
		t.Fatalf("Play(%+v, %v): %+v, %d, want %+v, %d", n, rows, out, e, played, f)
	}
	return out
}

// tally: how often things have come.
type tally struct {
	cut, out, whole int
	faults          map[api.Fault]int
}

// wantMeaning: the forms of actions mean what these mean, are valid, and are no greater.
func (c *tally) wantMeaning(t *testing.T, chance *rand.Rand, made task) {
	t.Helper()
	most := 0
	for i := range made.actions {
		for _, x := range expressions(&made.actions[i]) {
			if x.Op != 0 {
				most++
			}
		}
	}
	for _, fold := range []bool{true, false} {
		n, e := dag.Norm(made.names, made.actions, made.cells, made.horizon, fold)
		if e != api.OK || dag.Valid(n) != api.OK || len(n.Nodes) > most {
			t.Fatalf("Norm(%+v, %v): %+v, %d; Valid: %d; the actions have %d nodes", made, fold, n, e, dag.Valid(n), most)
		}
		c.out += len(made.actions) - len(n.Actions)
		for _, a := range n.Actions {
			if a.E < 0 {
				c.cut++
			} else {
				c.whole++
			}
		}
		for range 3 {
			rows := sample.Rows(chance.Intn, chance.Intn(made.horizon+3), len(made.names))
			c.faults[wantPlayed(t, n, made.actions, rows, api.OK).Fault]++
		}
	}
}

func (c *tally) wantAll(t *testing.T) {
	t.Helper()
	if c.cut < 100 || c.out < 100 || c.whole < 100 {
		t.Errorf("actions cut: %d, left out: %d, whole: %d", c.cut, c.out, c.whole)
	}
	for fault := range api.NoObs + 1 {
		if c.faults[fault] < 100 {
			t.Errorf("the fault %d has come %d times alone", fault, c.faults[fault])
		}
	}
}

// P1004, P1005, P1006: actions by chance.
func TestMeaningOfActions(t *testing.T) {
	t.Parallel()
	chance := rand.New(rand.NewSource(102))
	c := &tally{faults: map[api.Fault]int{}}
	for range 6000 {
		c.wantMeaning(t, chance, someTask(chance))
	}
	c.wantAll(t)
}

// P1004, P1005, P1006: the actions of deals by chance.
func TestMeaningOfDeals(t *testing.T) {
	t.Parallel()
	chance := rand.New(rand.NewSource(103))
	c := &tally{faults: map[api.Fault]int{}}
	for range 2000 {
		d := sample.Deal(chance.Intn)
		actions, cells, _ := legs.Unroll(d)
		c.wantMeaning(t, chance, task{d.Names, actions, cells, actions[len(actions)-1].Day})
	}
	c.wantAll(t)
}

// P1006: the form of what a form says is that form; and a folded form has nothing more to fold.
func TestFormsOfForms(t *testing.T) {
	t.Parallel()
	chance := rand.New(rand.NewSource(104))
	held := map[bool]int{}
	for range 8000 {
		made := someTask(chance)
		for _, fold := range []bool{true, false} {
			n, _ := dag.Norm(made.names, made.actions, made.cells, made.horizon, fold)
			if slices.ContainsFunc(n.Actions, func(a api.NAction) bool { return a.E < 0 }) {
				continue
			}
			actions, e := dag.Open(n)
			again, f := dag.Norm(n.Names, actions, n.Cells, n.Horizon, false)
			if e != api.OK || f != api.OK || !sameNormal(again, n) || !fold && !sameActions(actions, made.actions) {
				t.Fatalf("%+v, opened %+v, %d, the form of that: %+v, %d", n, actions, e, again, f)
			}
			if fold {
				again, f = dag.Norm(n.Names, actions, n.Cells, n.Horizon, true)
			}
			if f != api.OK || !sameNormal(again, n) {
				t.Fatalf("%+v, folded once more: %+v, %d", n, again, f)
			}
			held[fold]++
		}
	}
	if held[true] < 1000 || held[false] < 1000 {
		t.Errorf("%v forms are held", held)
	}
}

// spoilNode changes one thing of a node.
func spoilNode(chance *rand.Rand, n *api.Node, nodes int) {
	switch chance.Intn(5) {
	case 0:
		n.Op = chance.Intn(34) - 1
	case 1:
		n.Num += pick(chance, -1, 1)
	case 2:
		n.Day += pick(chance, -1, 1)
	default:
		*pick(chance, &n.A, &n.B, &n.C) = chance.Intn(nodes+2) - 1
	}
}

// spoilAction changes one thing of a normal action.
func spoilAction(chance *rand.Rand, a *api.NAction, nodes int) {
	switch chance.Intn(8) {
	case 0:
		a.Day += pick(chance, -1, 1)
	case 1:
		a.Kind = pick(chance, 0, 1, 2)
	case 2:
		a.E = chance.Intn(nodes+2) - 1
	case 3:
		a.Cur = pick(chance, "", "EUR", "eur")
	case 4:
		a.Cell += pick(chance, -1, 1)
	case 5:
		a.Steps = append(a.Steps, api.NStep{Kind: chance.Intn(5), Want: chance.Intn(3) == 0, E: chance.Intn(nodes + 1)})
	case 6:
		a.Steps = a.Steps[:chance.Intn(len(a.Steps)+1)]
	case 7:
		*a = api.NAction{Day: a.Day, Kind: api.ActFlow, Steps: a.Steps, E: -1}
	}
}

// spoilForm changes one thing of a form.
func spoilForm(chance *rand.Rand, n *api.Normal) {
	if len(n.Nodes) == 0 {
		n.Nodes = append(n.Nodes, nNum(1))
		return
	}
	at := chance.Intn(len(n.Nodes))
	switch chance.Intn(10) {
	case 0:
		n.Nodes = slices.Delete(n.Nodes, at, at+1)
	case 1:
		n.Nodes = append(n.Nodes, n.Nodes[at])
	case 2:
		other := chance.Intn(len(n.Nodes))
		n.Nodes[at], n.Nodes[other] = n.Nodes[other], n.Nodes[at]
	case 3:
		n.Actions = slices.Delete(n.Actions, len(n.Actions)-1, len(n.Actions))
	case 4:
		n.Horizon, n.Cells = n.Horizon+pick(chance, -1, 0, 1), n.Cells+pick(chance, -1, 0, 1)
	case 5:
		n.Names = append(n.Names, pick(chance, "A", "Z", "z"))
	case 6, 7:
		spoilNode(chance, &n.Nodes[at], len(n.Nodes))
	default:
		spoilAction(chance, &n.Actions[chance.Intn(len(n.Actions))], len(n.Nodes))
	}
}

// P1002, P1003, P1004: forms by chance, right and wrong, against the plain reading of the chapter. P1006: of those that are valid.
func TestFormsByChance(t *testing.T) {
	t.Parallel()
	chance := rand.New(rand.NewSource(105))
	errors := map[api.Errno]int{}
	for range 40000 {
		made := someTask(chance)
		n, _ := dag.Norm(made.names, made.actions, made.cells, made.horizon, chance.Intn(2) == 0)
		if chance.Intn(5) > 0 {
			spoilForm(chance, &n)
		}
		e := wantValidAsPlain(t, n, sample.Rows(chance.Intn, 4, 3))
		errors[e]++
		if e != api.OK || slices.ContainsFunc(n.Actions, func(a api.NAction) bool { return a.E < 0 }) {
			continue
		}
		actions, _ := dag.Open(n)
		if again, f := dag.Norm(n.Names, actions, n.Cells, n.Horizon, false); f != api.OK || !sameNormal(again, n) {
			t.Fatalf("the form of what %+v says: %+v, %d", n, again, f)
		}
	}
	if errors[api.OK] < 10000 || errors[api.ErrArg] < 10000 {
		t.Errorf("the errors have come so often: %v", errors)
	}
}

// wild: any number, some as great as can be.
func wild(chance *rand.Rand) int {
	return pick(chance, -1<<63, -2, -1, 0, 1, 2, 3, 5, 30, 31, 3660, 1<<62, 1<<63-1)
}

// P1, P1007: what has nothing of a form, or of an action.
func TestWildArguments(t *testing.T) {
	t.Parallel()
	chance := rand.New(rand.NewSource(106))
	for range 20000 {
		var n api.Normal
		for range chance.Intn(4) {
			n.Nodes = append(n.Nodes, api.Node{Op: wild(chance), Num: wild(chance), Day: wild(chance), A: wild(chance), B: wild(chance), C: wild(chance)})
			n.Names = append(n.Names, pick(chance, "A", "B", "", "\xff"))
		}
		for range chance.Intn(4) {
			a := api.NAction{Day: wild(chance), Kind: wild(chance), E: wild(chance), Cur: pick(chance, "EUR", "", "\x00"), Cell: wild(chance)}
			for range chance.Intn(3) {
				a.Steps = append(a.Steps, api.NStep{Kind: wild(chance), Want: chance.Intn(2) == 0, E: wild(chance)})
			}
			n.Actions = append(n.Actions, a)
		}
		n.Cells, n.Horizon = wild(chance), wild(chance)
		wantValidAsPlain(t, n, nil)
		var actions []api.Action
		for _, a := range n.Actions {
			made := api.Action{Day: a.Day, Kind: a.Kind, Cur: a.Cur, Cell: a.Cell, E: api.X{Op: wild(chance), Num: wild(chance), Day: wild(chance)}}
			made.E.Kids = make([]api.X, chance.Intn(5))
			for _, s := range a.Steps {
				made.Steps = append(made.Steps, api.Step{Kind: s.Kind, Want: s.Want, E: made.E})
			}
			actions = append(actions, made)
		}
		wantAsPlain(t, n.Names, actions, n.Cells, n.Horizon)
	}
}
