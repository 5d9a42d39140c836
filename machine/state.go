package machine

import (
	"cmp"
	"slices"

	"payoff/api"
)

// copyProgram: a program that shares no list with the one that is given.
func copyProgram(p api.Program) api.Program {
	p.Names, p.Curs, p.Pool = slices.Clone(p.Names), slices.Clone(p.Curs), slices.Clone(p.Pool)
	p.Days = slices.Clone(p.Days)
	for n := range p.Days {
		p.Days[n].Code = slices.Clone(p.Days[n].Code)
	}
	return p
}

// copyState: a state that shares no list with the one that is given.
func copyState(s api.State) api.State {
	s.Cells = slices.Clone(s.Cells)
	s.Past = slices.Clone(s.Past)
	for n := range s.Past {
		s.Past[n] = slices.Clone(s.Past[n])
	}
	return s
}

// codeOf tells a day's code: none, if the program does nothing on that day.
func (m *Machine) codeOf(day int) []api.Instr {
	at, found := slices.BinarySearchFunc(m.program.Days, day, func(s api.Segment, day int) int { return cmp.Compare(s.Day, day) })
	if !found {
		return nil
	}
	return m.program.Days[at].Code
}

// fit makes a row one of a day: a cell a name.
func (m *Machine) fit(row []api.Cell) []api.Cell {
	fitted := make([]api.Cell, len(m.program.Names))
	copy(fitted, row)
	for n := range fitted {
		if isOdd(fitted[n]) {
			fitted[n] = api.Cell{}
		}
	}
	return fitted
}

// isOdd tells whether a cell says a number that was not observed.
func isOdd(c api.Cell) bool { return !c.Has && c.V != 0 }

// close ends a day, whose row may be looked back to from now on.
func (m *Machine) close(row []api.Cell, fault api.Fault) {
	s := &m.now
	s.Past = append(s.Past, row)
	if len(s.Past) > m.proof.Back {
		// What lies ahead of the list's first row would hold it for ever.
		s.Past[0] = nil
		s.Past = s.Past[1:]
	}
	if fault != api.NoFault {
		s.Fault, s.Day = fault, s.Today
	}
	s.Today++
}

// admits tells whether a state is one of the machine's program.
func (m *Machine) admits(s api.State) bool {
	return isWithin(s.Today, m.program.Horizon+1) &&
		isWithin(s.Steps, m.mostSteps(s.Today)) &&
		m.cellsFit(s) && m.pastFits(s) && m.faultFits(s)
}

func isWithin(x, last int) bool { return x >= 0 && x <= last }

// mostSteps tells how many instructions the days ahead of a day have.
func (m *Machine) mostSteps(day int) int {
	steps := 0
	for _, s := range m.program.Days {
		if s.Day < day {
			steps += len(s.Code)
		}
	}
	return steps
}

func (m *Machine) cellsFit(s api.State) bool {
	isSet := func(v int) bool { return v != 0 }
	return len(s.Cells) == m.program.Cells && (s.Today > 0 || !slices.ContainsFunc(s.Cells, isSet))
}

func (m *Machine) pastFits(s api.State) bool {
	isWrong := func(row []api.Cell) bool {
		return len(row) != len(m.program.Names) || slices.ContainsFunc(row, isOdd)
	}
	return len(s.Past) == min(s.Today, m.proof.Back) && !slices.ContainsFunc(s.Past, isWrong)
}

// faultFits: a fault comes out of the code of the day that was run last.
func (m *Machine) faultFits(s api.State) bool {
	if s.Fault == api.NoFault {
		return s.Day == 0
	}
	return s.Fault > api.NoFault && s.Fault <= api.NoObs && s.Day == s.Today-1 && len(m.codeOf(s.Day)) > 0
}
