package legs

import (
	"payoff/api"
	"payoff/lex"
	"payoff/num"
)

// playable tells whether actions may be played, with so many accumulators.
func playable(actions []api.Action, cells int) api.Errno {
	if cells < 0 || cells > api.MaxCells {
		return api.ErrArg
	}
	for i := range actions {
		if !isAction(&actions[i], cells) {
			return api.ErrArg
		}
	}
	day := 0
	for i := range actions {
		if actions[i].Day < day || actions[i].Day > api.MaxHorizon {
			return api.ErrRange
		}
		day = actions[i].Day
	}
	if len(actions) > api.MaxActions {
		return api.ErrLong
	}
	return api.OK
}

// isAction tells whether all of an action but its day is as it must be.
func isAction(a *api.Action, cells int) bool {
	for i := range a.Steps {
		if kind := a.Steps[i].Kind; kind != api.StepTest && kind != api.StepTimes && kind != api.StepGive {
			return false
		}
	}
	switch a.Kind {
	case api.ActFlow:
		return lex.Currency(a.Cur)
	case api.ActSet:
		return a.Cell >= 0 && a.Cell < cells
	}
	return false
}

// player plays actions, and keeps what came of them.
type player struct {
	world
	api.Outcome
}

// play plays actions one after the other, up to the first fault.
func (p *player) play(actions []api.Action) {
	today := 0
	defer func() {
		if met := faultOf(recover()); met != api.NoFault {
			p.Fault, p.Day = met, today
		}
	}()
	for i := range actions {
		today = actions[i].Day
		p.act(&actions[i])
	}
}

func (p *player) act(a *api.Action) {
	factors, all := p.pass(a.Steps)
	if !all {
		return
	}
	v := turn(p.value(&a.E), a.Steps, factors)
	if a.Kind == api.ActFlow {
		p.Flows = append(p.Flows, api.Flow{Day: a.Day, Cur: a.Cur, Amount: v})
	} else {
		p.cells[a.Cell] = v
	}
}

// pass goes through the steps around an action, and tells its factors, each at its step's place, and whether all tests are passed.
func (p *player) pass(steps []api.Step) ([]int, bool) {
	factors := make([]int, len(steps))
	for i := range steps {
		switch steps[i].Kind {
		case api.StepTest:
			if (p.value(&steps[i].E) != 0) != steps[i].Want {
				return nil, false
			}
		case api.StepTimes:
			factors[i] = p.value(&steps[i].E)
		}
	}
	return factors, true
}

// turn takes an amount out through the steps around it, from the innermost on.
func turn(v int, steps []api.Step, factors []int) int {
	for i := len(steps) - 1; i >= 0; i-- {
		switch steps[i].Kind {
		case api.StepTimes:
			v = sound(num.Mul(factors[i], v))
		case api.StepGive:
			v = sound(num.Neg(v))
		}
	}
	return v
}
