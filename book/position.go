package book

import (
	"slices"

	"payoff/api"
	"payoff/image"
	"payoff/lex"
	"payoff/machine"
)

// position: a deal that was taken in. Of one that was dropped nothing is kept but its name.
type position struct {
	api.Position
	dropped bool
	run     *run // nil, unless it goes on
}

// run: what a position that goes on is run by.
type run struct {
	program api.Program // the machine does not tell it
	machine *machine.Machine
}

// begun gives what runs an image from its first day on.
func begun(bytes []byte) (*run, api.Errno) {
	p, _, e := image.Decode(bytes)
	if e != api.OK {
		return nil, e
	}
	// The program is verified there.
	m, e := machine.New(p)
	if e != api.OK {
		return nil, e
	}
	return &run{p, m}, api.OK
}

// nameError tells why no position of that name can be taken in, if it cannot.
func (b *Book) nameError(name string) api.Errno {
	if !lex.Small(name) {
		return api.ErrArg
	}
	if _, taken := b.numbers[name]; taken {
		return api.ErrKnown
	}
	return api.OK
}

// isFull tells whether no further position may go on.
func (b *Book) isFull() bool { return len(b.goOn) == api.MaxBook }

// takeIn puts a position behind all others.
func (b *Book) takeIn(p *position) {
	b.numbers[p.Name] = len(b.positions)
	b.positions = append(b.positions, p)
	if p.goesOn() {
		b.goOn = append(b.goOn, p)
	}
}

// leaveOut takes from the positions that go on those that do so no more.
func (b *Book) leaveOut() {
	b.goOn = slices.DeleteFunc(b.goOn, func(p *position) bool { return !p.goesOn() })
}

func (p *position) goesOn() bool { return !p.dropped && p.State == api.Running }

func (p *position) drop() {
	*p = position{Position: api.Position{Name: p.Name}, dropped: true}
}

func (p *position) end(state int, fault api.Fault, day int) {
	p.State, p.Fault, p.Day, p.run = state, fault, day, nil
}
