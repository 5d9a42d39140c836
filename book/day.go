package book

import (
	"cmp"
	"slices"

	"payoff/api"
	"payoff/lex"
	"payoff/machine"
)

// observed tells what is known by its names.
func observed(known []api.Pair) (map[string]int, api.Errno) {
	seen := make(map[string]int, len(known))
	for _, pair := range known {
		if _, twice := seen[pair.Name]; twice || !lex.Capital(pair.Name) {
			return nil, api.ErrName
		}
		seen[pair.Name] = pair.V
	}
	return seen, api.OK
}

// hasRoomFor tells whether what flows today will fit into the ledger. No machine moves.
func (b *Book) hasRoomFor(seen map[string]int) bool {
	room, most := api.MaxLedger-len(b.ledger), 0
	for _, p := range b.goOn {
		most += p.run.mostFlows(b.today - p.Since)
	}
	if most <= room {
		return true
	}
	// It may not fit. Just how much will flow is found out with machines of their own, as none could go back a day.
	for _, p := range b.goOn {
		room -= p.run.rehearsed(seen)
	}
	return room >= 0
}

// mostFlows tells how many flows a day of the program may bring: no instruction is done twice.
func (r *run) mostFlows(day int) int {
	at, found := slices.BinarySearchFunc(r.program.Days, day, func(s api.Segment, day int) int { return cmp.Compare(s.Day, day) })
	if !found {
		return 0
	}
	most := 0
	for _, i := range r.program.Days[at].Code {
		if i.Op == api.OpFlow {
			most++
		}
	}
	return most
}

// rehearsed tells how many flows the next day will bring.
func (r *run) rehearsed(seen map[string]int) int {
	twin, _ := machine.Resume(r.program, r.machine.State())
	flows, _, _ := twin.Day(r.row(seen))
	return len(flows)
}

// row tells what is known of the program's names.
func (r *run) row(seen map[string]int) []api.Cell {
	row := make([]api.Cell, len(r.program.Names))
	for n, name := range r.program.Names {
		v, has := seen[name]
		row[n] = api.Cell{Has: has, V: v}
	}
	return row
}

// runDay runs today, for which there is room, and tells its entries.
func (b *Book) runDay(seen map[string]int) []api.Entry {
	var entries []api.Entry
	for _, p := range b.goOn {
		for _, f := range p.runDay(b.today, seen) {
			entries = append(entries, api.Entry{Day: b.today, Name: p.Name, Cur: f.Cur, Amount: f.Amount})
		}
	}
	b.leaveOut()
	b.ledger = append(b.ledger, entries...)
	b.today++
	return entries
}

func (p *position) runDay(today int, seen map[string]int) []api.Flow {
	flows, fault, _ := p.run.machine.Day(p.run.row(seen))
	switch {
	case fault != api.NoFault:
		p.end(api.Faulted, fault, today)
	case p.run.machine.Over():
		p.end(api.Ended, api.NoFault, today)
	}
	return flows
}
