package desk

import (
	"payoff/api"
	"payoff/machine"
	"payoff/save"
	"payoff/table"
)

// running: a machine, with what it was made of.
type running struct {
	*machine.Machine
	program api.Program
	rows    [][]api.Cell // of the days that come, by the program's names
}

func (d *Desk) start(c call) ([]string, api.Errno) {
	m, e := machine.New(c.programs[0])
	return nil, d.setOff(c, m, e)
}

func (d *Desk) thaw(c call) ([]string, api.Errno) {
	m, e := save.Thaw(c.programs[0], c.frozen[0])
	return nil, d.setOff(c, m, e)
}

// setOff keeps a machine, if it could be made, with the rows of the days that come.
func (d *Desk) setOff(c call, m *machine.Machine, e api.Errno) api.Errno {
	if e != api.OK {
		return e
	}
	p := c.programs[0]
	rows, e := table.Bind(c.tables[0], p.Names)
	if e != api.OK {
		return e
	}
	d.machines[c.names[0]] = &running{m, p, rows[min(m.State().Today, len(rows)):]}
	return api.OK
}

func (d *Desk) freeze(c call) ([]string, api.Errno) {
	m, name := c.machines[0], c.names[0]
	b, e := save.Freeze(m.program, m.Machine)
	if e != api.OK {
		return nil, e
	}
	d.frozen[name] = b
	return []string{sized(name, b)}, api.OK
}

func (d *Desk) step(c call) ([]string, api.Errno) {
	days := 1
	if len(c.numbers) > 0 {
		days = c.numbers[0]
	}
	m := c.machines[0]
	if m.Over() {
		return nil, api.ErrOver
	}
	return m.step(days), api.OK
}

// step goes on by so many days, or as far as there are some, and tells what comes.
func (r *running) step(days int) []string {
	var told []string
	for ; days > 0 && !r.Over(); days-- {
		flows, _, _ := r.Day(r.nextRow())
		told = append(told, each(flows, flowLine)...)
	}
	if r.Over() {
		s := r.State()
		told = append(told, endLine(s.Fault, s.Day))
	}
	return told
}

// nextRow takes off the row of the day that comes; nil, if the table has none of it.
func (r *running) nextRow() []api.Cell {
	if len(r.rows) == 0 {
		return nil
	}
	row := r.rows[0]
	r.rows = r.rows[1:]
	return row
}
