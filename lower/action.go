package lower

import "payoff/api"

// action writes an action's code. Its factors lie on the stack till its end: a test that fails passes on to where as many are dropped as were there.
func (w *writer) action(a api.NAction) {
	failing := [][]leap{nil} // by the number of factors; the last: of as many as there are
	highest := 0             // of the heights at which there was a test
	for _, s := range a.Steps {
		switch s.Kind {
		case api.StepTest:
			highest = len(failing) - 1
			failing[highest] = append(failing[highest], w.test(s))
		case api.StepTimes:
			w.value(s.E)
			failing = append(failing, nil)
		}
	}
	if a.E == none {
		w.drop(failing)
		return
	}
	w.come(a)
	if highest == 0 {
		w.drop(failing[:1])
		return
	}
	over := w.leap(api.OpJump)
	w.drop(failing[:highest+1])
	over.land()
}

// test writes a test, and tells the jump of its failing.
func (w *writer) test(s api.NStep) leap {
	w.value(s.E)
	if !s.Want {
		w.put(api.OpNot, 0, 0)
	}
	return w.leap(api.OpZero)
}

// come writes what an action does where all of its tests hold.
func (w *writer) come(a api.NAction) {
	w.value(a.E)
	for i := len(a.Steps) - 1; i >= 0; i-- {
		switch a.Steps[i].Kind {
		case api.StepTimes:
			w.put(api.OpMul, 0, 0)
		case api.StepGive:
			w.put(api.OpNeg, 0, 0)
		}
	}
	if a.Kind == api.ActFlow {
		w.put(api.OpFlow, w.curs.place[a.Cur], 0)
	} else {
		w.put(api.OpStore, w.cells.place[a.Cell], 0)
	}
}

// drop writes a drop for each factor, and lets the tests that failed come in, each where as many are left as it had.
func (w *writer) drop(failing [][]leap) {
	for height := len(failing) - 1; height >= 0; height-- {
		for _, test := range failing[height] {
			test.land()
		}
		if height > 0 {
			w.put(api.OpDrop, 0, 0)
		}
	}
}
