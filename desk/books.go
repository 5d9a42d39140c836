package desk

import (
	"payoff/api"
	"payoff/book"
	"payoff/journal"
)

// change does a step that changes the book, or puts another one in its place. Where it fails, the book is the one that was there.
func (d *Desk) change(step func() api.Errno) (e api.Errno) {
	old := d.book
	defer func() {
		if e != api.OK {
			d.book = old
		}
	}()
	return step()
}

func (d *Desk) open(c call) ([]string, api.Errno) {
	return nil, d.change(func() api.Errno { return d.book.Add(c.names[0], imageOf(c.programs[0])) })
}

func (d *Desk) drop(c call) ([]string, api.Errno) {
	return nil, d.change(func() api.Errno { return d.book.Drop(c.names[0]) })
}

func (d *Desk) day(c call) ([]string, api.Errno) {
	var entries []api.Entry
	e := d.change(func() (e api.Errno) {
		entries, e = d.book.Day(c.pairs)
		return e
	})
	return each(entries, entryLine), e
}

func (d *Desk) cut(c call) ([]string, api.Errno) {
	var counted int
	e := d.change(func() (e api.Errno) {
		all := d.book.Journal()
		d.book, counted, e = book.Open(all[:min(c.numbers[0], len(all))])
		return e
	})
	return []string{withNumbers("cut", counted)}, e
}

func (d *Desk) compact(call) ([]string, api.Errno) {
	return nil, d.change(d.book.Compact)
}

func (d *Desk) positions(call) ([]string, api.Errno) {
	today := withNumbers("today", d.book.Today())
	return append([]string{today}, each(d.book.Positions(), positionLine)...), api.OK
}

func (d *Desk) balance(c call) ([]string, api.Errno) {
	totals, fault, e := d.book.Balance(c.names[0])
	return totalLines(totals, fault), e
}

func (d *Desk) ledger(call) ([]string, api.Errno) {
	return each(d.book.Ledger(), entryLine), api.OK
}

func (d *Desk) journal(call) ([]string, api.Errno) {
	all := d.book.Journal()
	j, _, e := journal.Open(all)
	if e != api.OK {
		return nil, e
	}
	return []string{withNumbers(sized("journal", all), j.Count()) + " records"}, api.OK
}
