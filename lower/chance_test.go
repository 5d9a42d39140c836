package lower_test

import (
	"math/rand"
	"slices"
	"testing"

	"payoff/api"
	"payoff/dag"
	"payoff/legs"
	"payoff/sample"
)

func pick[T any](chance *rand.Rand, list ...T) T { return list[chance.Intn(len(list))] }

// mixed: actions with some more behind them, on the last day, of the steps and amounts of those ahead: so much in them is alike.
func mixed(chance *rand.Rand, actions []api.Action) []api.Action {
	if len(actions) == 0 {
		return nil
	}
	day := actions[len(actions)-1].Day
	for range chance.Intn(5) {
		a := pick(chance, actions...)
		a.Day, a.E, a.Steps = day, pick(chance, actions...).E, slices.Clone(a.Steps)
		for range chance.Intn(4) {
			for _, s := range pick(chance, actions...).Steps {
				if s.Kind == api.StepTest || a.Kind == api.ActFlow {
					a.Steps = append(a.Steps, s)
				}
			}
		}
		actions = append(actions, a)
	}
	return actions
}

// cutSome cuts some actions of a form.
func cutSome(chance *rand.Rand, n api.Normal) api.Normal {
	n.Actions = slices.Clone(n.Actions)
	for i := range n.Actions {
		a := &n.Actions[i]
		steps := slices.DeleteFunc(slices.Clone(a.Steps), func(s api.NStep) bool { return s.Kind == api.StepGive })
		if len(steps) > 0 && chance.Intn(3) == 0 {
			*a = api.NAction{Day: a.Day, Kind: api.ActFlow, Steps: steps, E: -1}
		}
	}
	return renumbered(n)
}

// renumbered: a form whose nodes stand in the order in which the actions reach them.
func renumbered(n api.Normal) api.Normal {
	var nodes []api.Node
	numbers := map[int]int{-1: -1}
	var number func(node int) int
	number = func(node int) int {
		if _, there := numbers[node]; !there {
			x := n.Nodes[node]
			x.A, x.B, x.C = number(x.A), number(x.B), number(x.C)
			numbers[node] = len(nodes)
			nodes = append(nodes, x)
		}
		return numbers[node]
	}
	actions := slices.Clone(n.Actions)
	for i := range actions {
		a := &actions[i]
		a.Steps = slices.Clone(a.Steps)
		for j := range a.Steps {
			if a.Steps[j].Kind != api.StepGive {
				a.Steps[j].E = number(a.Steps[j].E)
			}
		}
		a.E = number(a.E)
	}
	n.Nodes, n.Actions = nodes, actions
	return n
}

// someForm: a form by chance, that is valid.
func someForm(t *testing.T, chance *rand.Rand) api.Normal {
	t.Helper()
	names := slices.Clone([]string{"A", "B1", "C_"}[:chance.Intn(4)])
	chance.Shuffle(len(names), func(i, j int) { names[i], names[j] = names[j], names[i] })
	cells, horizon := chance.Intn(4), pick(chance, 0, 0, 1, 3, 8)
	n, e := dag.Norm(names, mixed(chance, sample.Actions(chance.Intn, len(names), cells, horizon)), cells, horizon, chance.Intn(2) == 0)
	if e != api.OK {
		t.Fatalf("Norm: %d", e)
	}
	if chance.Intn(4) == 0 {
		n = cutSome(chance, n)
	}
	if e := dag.Valid(n); e != api.OK {
		t.Fatalf("Valid: %d: %+v", e, n)
	}
	return n
}

// formOfDeal: the form of a deal by chance.
func formOfDeal(t *testing.T, chance *rand.Rand) api.Normal {
	t.Helper()
	d := sample.Deal(chance.Intn)
	actions, cells, _ := legs.Unroll(d)
	n, e := dag.Norm(d.Names, actions, cells, actions[len(actions)-1].Day, chance.Intn(2) == 0)
	if e != api.OK {
		t.Fatalf("Norm: %d", e)
	}
	return n
}

// count: how many instructions of that Op a program has.
func count(p api.Program, op int) int {
	found := 0
	for _, s := range p.Days {
		for _, i := range s.Code {
			if i.Op == op {
				found++
			}
		}
	}
	return found
}

// P1701, P1702: forms by chance, against the plain reading.
func TestFormsByChance(t *testing.T) {
	t.Parallel()
	chance := rand.New(rand.NewSource(171))
	ops, gets, cut, days := map[int]int{}, 0, 0, map[int]int{}
	for range 6000 {
		n := someForm(t, chance)
		p := hold(t, n)
		for op := range api.OpFlow + 1 {
			ops[op] += count(p, op)
		}
		if count(p, api.OpGet) > 2 {
			gets++
		}
		for _, a := range n.Actions {
			if a.E < 0 {
				cut++
			}
		}
		days[len(p.Days)]++
	}
	for op := range api.OpFlow + 1 {
		if ops[op] < 100 {
			t.Errorf("instructions %d: %d", op, ops[op])
		}
	}
	if gets < 1000 || cut < 1000 {
		t.Errorf("%d programs that share much, %d actions that are cut", gets, cut)
	}
	for n := range 6 {
		if days[n] < 50 {
			t.Errorf("programs of %d days: %d", n, days[n])
		}
	}
}

// P1701, P1702: the forms of deals by chance, likewise.
func TestFormsOfDeals(t *testing.T) {
	t.Parallel()
	chance := rand.New(rand.NewSource(172))
	gets := 0
	for range 1500 {
		if p := hold(t, formOfDeal(t, chance)); count(p, api.OpGet) > 0 {
			gets++
		}
	}
	if gets < 100 {
		t.Errorf("%d programs that share something", gets)
	}
}

// spoilNode changes one thing of a node.
func spoilNode(chance *rand.Rand, x *api.Node, nodes int) {
	switch chance.Intn(5) {
	case 0:
		x.Op = chance.Intn(34) - 1
	case 1:
		x.Num += pick(chance, -1, 1)
	case 2:
		x.Day += pick(chance, -1, 1)
	default:
		*pick(chance, &x.A, &x.B, &x.C) = chance.Intn(nodes+2) - 1
	}
}

// spoil changes one thing of a form that has actions. It may still be valid.
func spoil(chance *rand.Rand, n *api.Normal) {
	n.Nodes, n.Actions, n.Names = slices.Clone(n.Nodes), slices.Clone(n.Actions), slices.Clone(n.Names)
	at, a := chance.Intn(len(n.Nodes)), pick(chance, &n.Actions[0], &n.Actions[len(n.Actions)-1])
	switch chance.Intn(10) {
	case 0:
		n.Nodes = slices.Delete(n.Nodes, at, at+1)
	case 1:
		n.Nodes = append(n.Nodes, n.Nodes[at])
	case 2:
		n.Horizon, n.Cells = n.Horizon+pick(chance, -1, 0, 1), n.Cells+pick(chance, -1, 0, 1)
	case 3:
		n.Names = append(n.Names, pick(chance, "A", "Z", "z"))
	case 4:
		a.Day += pick(chance, -1, 1)
	case 5:
		a.Kind, a.Cell = pick(chance, 0, 1, 2), pick(chance, 0, 0, 1)
	case 6:
		a.E = chance.Intn(len(n.Nodes)+2) - 1
	case 7:
		a.Steps = append(slices.Clone(a.Steps), api.NStep{Kind: chance.Intn(5), Want: chance.Intn(3) == 0, E: chance.Intn(len(n.Nodes) + 1)})
	default:
		spoilNode(chance, &n.Nodes[at], len(n.Nodes))
	}
}

// P1701, P1702: forms with something changed: they are refused just if Valid does not take them.
func TestSpoiltForms(t *testing.T) {
	t.Parallel()
	chance := rand.New(rand.NewSource(173))
	told := map[api.Errno]int{}
	for range 6000 {
		n := someForm(t, chance)
		if len(n.Actions) == 0 {
			continue
		}
		spoil(chance, &n)
		e := dag.Valid(n)
		told[e]++
		if e == api.OK {
			hold(t, n)
		} else {
			holdRefused(t, n)
		}
	}
	if told[api.OK] < 500 || told[api.ErrArg] < 2000 {
		t.Errorf("%v", told)
	}
}

// wild: any number, some as great as can be.
func wild(chance *rand.Rand) int {
	return pick(chance, -1<<63, -2, -1, 0, 1, 2, 3, 5, 30, 31, 3660, 1<<62, 1<<63-1)
}

// P1: what has nothing of a form.
func TestWildForms(t *testing.T) {
	t.Parallel()
	chance := rand.New(rand.NewSource(174))
	for range 20000 {
		var n api.Normal
		for range chance.Intn(4) {
			n.Nodes = append(n.Nodes, api.Node{Op: wild(chance), Num: wild(chance), Day: wild(chance), A: wild(chance), B: wild(chance), C: wild(chance)})
			n.Names = append(n.Names, pick(chance, "A", "B", "", "\xff"))
		}
		for range 1 + chance.Intn(3) {
			a := api.NAction{Day: wild(chance), Kind: wild(chance), E: wild(chance), Cur: pick(chance, "EUR", "", "\x00"), Cell: wild(chance)}
			for range chance.Intn(3) {
				a.Steps = append(a.Steps, api.NStep{Kind: wild(chance), Want: chance.Intn(2) == 0, E: wild(chance)})
			}
			n.Actions = append(n.Actions, a)
		}
		n.Cells, n.Horizon = wild(chance), wild(chance)
		if dag.Valid(n) != api.OK {
			holdRefused(t, n)
		}
	}
}
