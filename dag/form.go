package dag

import "payoff/api"

// none stands where a node has no kid, and where a cut action has no amount.
const none = -1

// leg is an action on its way into a form.
type leg struct {
	api.Action
	cut bool // it ends behind its steps
}

func asIs(a api.Action) leg {
	return leg{Action: a}
}

// form is a normal form that is being made.
type form struct {
	api.Normal
	numbers map[api.Node]int
}

func newForm() *form {
	return &form{numbers: map[api.Node]int{}}
}

// fill puts legs into a form. What cannot stand in one is put there as what none has, so that it does not fit.
func fill(frame api.Normal, list []leg) api.Normal {
	f := newForm()
	f.Normal = frame
	for _, l := range list {
		if l.cut && len(l.Steps) == 0 {
			continue // nothing can come of it, not even a fault
		}
		f.Actions = append(f.Actions, f.action(l))
	}
	return f.Normal
}

func (f *form) action(l leg) api.NAction {
	a := api.NAction{Day: l.Day, Kind: l.Kind, Steps: each(l.Steps, f.step), E: none, Cur: l.Cur, Cell: l.Cell}
	if !l.cut {
		a.E = f.number(l.E)
	}
	return a
}

func (f *form) step(s api.Step) api.NStep {
	n := api.NStep{Kind: s.Kind, Want: s.Want}
	switch {
	case s.Kind != api.StepGive:
		n.E = f.number(s.E)
	case !isBlank(s.E):
		n.E = none
	}
	return n
}

func isBlank(x api.X) bool {
	return x.Op == 0 && x.Num == 0 && x.Day == 0 && len(x.Kids) == 0
}

// number tells an expression's number; its kids have theirs ahead of it.
func (f *form) number(x api.X) int {
	if len(x.Kids) != len(ruleOf(x.Op).kids) {
		return f.keep(api.Node{})
	}
	kids := [3]int{none, none, none}
	copy(kids[:], each(x.Kids, f.number))
	return f.keep(api.Node{Op: x.Op, Num: x.Num, Day: x.Day, A: kids[0], B: kids[1], C: kids[2]})
}

// keep tells a node's number, the next one if no like node has any.
func (f *form) keep(n api.Node) int {
	number, known := f.numbers[n]
	if !known {
		number = len(f.Nodes)
		f.numbers[n] = number
		f.Nodes = append(f.Nodes, n)
	}
	return number
}

// partsOf tells the numbers of a node's kids, as many as its operator has, and what stands in the places that it does not use.
func partsOf(n api.Node) (kids, unused []int) {
	all, count := []int{n.A, n.B, n.C}, len(ruleOf(n.Op).kids)
	return all[:count], all[count:]
}
