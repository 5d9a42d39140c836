package dag

import "payoff/api"

// neverCur is the currency of an action that never flows.
const neverCur = "AAA"

// opener tells what the nodes of a valid form say.
type opener struct {
	nodes []api.Node
}

func (o opener) action(n api.NAction) api.Action {
	a := api.Action{Day: n.Day, Kind: n.Kind, Steps: each(n.Steps, o.step), Cur: n.Cur, Cell: n.Cell}
	if n.E != none {
		a.E = o.expression(n.E)
		return a
	}
	a.Steps = append(a.Steps, api.Step{Kind: api.StepTest, Want: true, E: api.X{Op: api.XFalse}})
	a.E, a.Cur = api.X{Op: api.XNum}, neverCur
	return a
}

func (o opener) step(n api.NStep) api.Step {
	s := api.Step{Kind: n.Kind, Want: n.Want}
	if n.Kind != api.StepGive {
		s.E = o.expression(n.E)
	}
	return s
}

// expression makes an expression anew, for each place at which it stands.
func (o opener) expression(number int) api.X {
	n := o.nodes[number]
	kids, _ := partsOf(n)
	return api.X{Op: n.Op, Num: n.Num, Day: n.Day, Kids: each(kids, o.expression)}
}
