package book

import (
	"math"

	"payoff/api"
	"payoff/image"
	"payoff/lex"
	"payoff/machine"
	"payoff/save"
)

func (o *opening) head(r *reader) bool {
	o.isGrouped = true
	o.today = r.number(api.MaxDays)
	o.positionsLeft = r.number(math.MaxInt)
	o.entriesLeft = r.number(api.MaxLedger)
	return r.ended()
}

func (o *opening) position(r *reader) bool {
	var p position
	p.Name = r.text()
	p.Since = r.number(o.today)
	p.State = r.number(api.Faulted)
	p.Fault = api.Fault(r.number(int(api.NoObs)))
	p.Day = r.number(api.MaxDays)
	p.dropped = r.number(1) == 1
	program, state := r.text(), r.text()
	if !r.ended() || o.nameError(p.Name) != api.OK || !p.isSound(o.today) {
		return false
	}
	if p.goesOn() {
		p.run = resumed(program, state, o.today-p.Since)
		if p.run == nil || o.isFull() {
			return false
		}
	} else if program != "" || state != "" {
		return false
	}
	o.takeIn(&p)
	o.positionsLeft--
	return true
}

// isSound tells whether the numbers of a position, each of which is within its bounds, fit together.
func (p *position) isSound(today int) bool {
	switch {
	case p.dropped:
		return p.Position == api.Position{Name: p.Name}
	case p.goesOn():
		return p.Fault == api.NoFault && p.Day == 0
	}
	return p.Day >= p.Since && p.Day < today && (p.State == api.Faulted) == (p.Fault != api.NoFault)
}

// resumed gives what runs an image on from a state ahead of a day; nil, if it cannot go on.
func resumed(program, state string, today int) *run {
	p, _, e := image.Decode([]byte(program))
	if e != api.OK {
		return nil
	}
	s, _, e := save.Decode(p, []byte(state))
	if e != api.OK || s.Today != today {
		return nil
	}
	m, e := machine.Resume(p, s)
	if e != api.OK || m.Over() {
		return nil
	}
	return &run{p, m}
}

func (o *opening) entries(r *reader) bool {
	count := r.number(perRecord)
	if count != min(o.entriesLeft, perRecord) {
		return false
	}
	for range count {
		if !o.entry(r) {
			return false
		}
	}
	o.entriesLeft -= count
	return r.ended()
}

func (o *opening) entry(r *reader) bool {
	day, number := r.number(api.MaxDays), r.number(math.MaxInt)
	cur, amount := r.text(), r.value()
	if r.wrong || day >= o.today || number >= len(o.positions) || !lex.Currency(cur) {
		return false
	}
	if last := len(o.ledger) - 1; last >= 0 && day < o.ledger[last].Day {
		return false
	}
	o.ledger = append(o.ledger, api.Entry{Day: day, Name: o.positions[number].Name, Cur: cur, Amount: amount})
	return true
}

func (o *opening) tail(r *reader) bool {
	o.isGrouped = !r.ended()
	return !o.isGrouped
}
