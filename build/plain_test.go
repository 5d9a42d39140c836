package build_test

import (
	"slices"

	"payoff/api"
	"payoff/check"
	"payoff/dag"
	"payoff/image"
	"payoff/legs"
	"payoff/lower"
	"payoff/machine"
	"payoff/table"
	"payoff/tree"
	"payoff/verify"
)

// The plain reading of the chapter, promise by promise, to hold the calls against.

// plainReport: P1802, the report, and the deal where that is OK.
func plainReport(text string) (api.Deal, api.Report) {
	if len(text) > 65536 {
		return api.Deal{}, api.Report{Err: api.ErrLong}
	}
	d, place, e := tree.Parse(text)
	if e != api.OK {
		return api.Deal{}, api.Report{Err: api.ErrSyntax, At: place}
	}
	if path, e := check.Check(d); e != api.OK {
		return api.Deal{}, api.Report{Err: api.ErrType, Path: path}
	}
	m, _ := check.Measure(d)
	if check.Within(m) != api.OK {
		return api.Deal{}, api.Report{Err: api.ErrLimit, Size: m}
	}
	return d, api.Report{Size: m}
}

// plainCompile: P1802.
func plainCompile(text string, fold, share bool) ([]byte, api.Report) {
	d, r := plainReport(text)
	if r.Err != api.OK {
		return nil, r
	}
	actions, cells, _ := legs.Unroll(d)
	n, _ := dag.Norm(d.Names, actions, cells, r.Size.Horizon, fold)
	p, _ := lower.Lower(n, share)
	b, _ := image.Encode(p)
	return b, r
}

// plainRows: the rows of a valid table, by other names.
func plainRows(t api.Table, names []string) [][]api.Cell {
	rows := make([][]api.Cell, len(t.Rows))
	for day := range t.Rows {
		for _, name := range names {
			cell := api.Cell{}
			if column := slices.Index(t.Names, name); column >= 0 {
				cell = t.Rows[day][column]
			}
			rows[day] = append(rows[day], cell)
		}
	}
	return rows
}

// plainProgram: P1803 and P1805, what is asked first.
func plainProgram(b []byte) (api.Program, api.Errno) {
	p, _, e := image.Decode(b)
	if e != api.OK {
		return api.Program{}, e
	}
	if _, _, _, e := verify.Verify(p); e != api.OK {
		return api.Program{}, e
	}
	return p, api.OK
}

// plainRun: P1803, day by day.
func plainRun(b []byte, t api.Table) (api.Outcome, api.Errno) {
	p, e := plainProgram(b)
	if e != api.OK {
		return api.Outcome{}, e
	}
	if e := table.Valid(t); e != api.OK {
		return api.Outcome{}, e
	}
	var out api.Outcome
	m, _ := machine.New(p)
	rows := plainRows(t, p.Names)
	for day := 0; day <= p.Horizon && out.Fault == api.NoFault; day++ {
		var row []api.Cell
		if day < len(rows) {
			row = rows[day]
		}
		flows, fault, _ := m.Day(row)
		out.Flows = append(out.Flows, flows...)
		if fault != api.NoFault {
			out.Fault, out.Day = fault, day
		}
	}
	return out, api.OK
}

// plainMean: P1804.
func plainMean(text string, t api.Table) (api.Outcome, api.Report) {
	d, r := plainReport(text)
	if r.Err != api.OK {
		return api.Outcome{}, r
	}
	if e := table.Valid(t); e != api.OK {
		return api.Outcome{}, api.Report{Err: e}
	}
	actions, cells, _ := legs.Unroll(d)
	out, _ := legs.Play(actions, cells, plainRows(t, d.Names))
	return out, r
}

// plainNeeds: P1805, by asking of each day and name whether it is read.
func plainNeeds(b []byte) ([]api.Pair, api.Errno) {
	p, e := plainProgram(b)
	if e != api.OK {
		return nil, e
	}
	read := map[api.Pair]int{}
	for _, s := range p.Days {
		for _, i := range s.Code {
			if i.Op == api.OpObs {
				read[api.Pair{Name: p.Names[i.A], V: s.Day - i.B}]++
			}
		}
	}
	names := slices.Sorted(slices.Values(p.Names))
	var pairs []api.Pair
	for day := range p.Horizon + 1 {
		for _, name := range names {
			if pair := (api.Pair{Name: name, V: day}); read[pair] > 0 {
				pairs = append(pairs, pair)
			}
		}
	}
	return pairs, api.OK
}
