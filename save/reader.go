package save

import (
	"bytes"

	"payoff/api"
	"payoff/octet"
)

// maxNumber is the most that a number of the course may be.
const maxNumber = 1 << 62

// refusal is the panic with which reading gives up.
type refusal struct {
	place int
	e     api.Errno
}

// refusalOf tells why and where reading gave up, if it did. Any other panic is not the reader's, and goes on.
func refusalOf(cause any) (refusal, bool) {
	switch cause := cause.(type) {
	case nil:
		return refusal{}, false
	case refusal:
		return cause, true
	default:
		panic(cause)
	}
}

// body is what every section has. Whatever is wrong with it is told at its first byte.
type body struct {
	*octet.Reader
	place int
}

func (b body) giveUp(e api.Errno) {
	panic(refusal{b.place, e})
}

func (b body) mustHold(holds bool) {
	if !holds {
		b.giveUp(api.ErrSection)
	}
}

func (b body) mustEnd() { b.mustHold(b.Left() == 0) }

func (b body) number(limit uint64) int {
	x, e := b.Uint(limit)
	b.mustHold(e == api.OK)
	return int(x)
}

func (b body) value() int {
	x, e := b.Int()
	b.mustHold(e == api.OK)
	return x
}

// bodiesOf makes the sections' bodies ready to be read.
func bodiesOf(sealed []api.Section) [sectionCount]body {
	var bodies [sectionCount]body
	at := len(mark) + width(len(sealed))
	for i, s := range sealed {
		at += width(s.Id) + width(len(s.Body))
		bodies[i] = body{octet.NewReader(s.Body), at}
		at += len(s.Body)
	}
	return bodies
}

// width tells how many bytes a number has.
func width(x int) int { return len(octet.AppendUint(nil, uint64(x))) }

// owner says of which program a state is.
type owner struct{ body }

func (o owner) mustBe(wanted []byte) {
	if told, _ := o.Take(o.Left()); !bytes.Equal(told, wanted) {
		o.giveUp(api.ErrOther)
	}
}

// course says how far a machine has come.
type course struct{ body }

func (c course) read(s *api.State) {
	s.Today = c.number(maxNumber)
	s.Steps = c.number(maxNumber)
	s.Fault = api.Fault(c.number(maxNumber))
	s.Day = c.number(maxNumber)
	c.mustEnd()
}

// cells says what so many accumulators are.
type cells struct {
	body
	count int
}

func (c cells) read(s *api.State) {
	s.Cells = make([]int, c.count)
	for i := range s.Cells {
		s.Cells[i] = c.value()
	}
	c.mustEnd()
}

// past says what so many rows are, each of so many names.
type past struct {
	body
	rows, names int
}

func (p past) read(s *api.State) {
	s.Past = make([][]api.Cell, p.rows)
	for i := range s.Past {
		s.Past[i] = make([]api.Cell, p.names)
		for j := range s.Past[i] {
			s.Past[i][j] = p.cell()
		}
	}
	p.mustEnd()
}

func (p past) cell() api.Cell {
	if p.number(isSeen) == isMissing {
		return api.Cell{}
	}
	return api.Cell{Has: true, V: p.value()}
}

// readState reads the state of a program that sections say.
func readState(p api.Program, back int, sealed []api.Section) api.State {
	bodies := bodiesOf(sealed)
	owner{bodies[0]}.mustBe(markOf(p))
	var s api.State
	course{bodies[1]}.read(&s)
	cells{bodies[2], p.Cells}.read(&s)
	past{bodies[3], min(s.Today, back), len(p.Names)}.read(&s)
	if e := Valid(p, s); e != api.OK {
		bodies[1].giveUp(e)
	}
	return s
}
