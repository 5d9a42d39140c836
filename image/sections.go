package image

import (
	"math"

	"payoff/api"
	"payoff/code"
	"payoff/octet"
)

const (
	currencySize = 3
	// maxCodeSize is the most bytes that a day's code may have.
	maxCodeSize = 1572864
)

// section is a part of a program that stands in a section of the image: its number, what writes its body, and what reads it.
type section struct {
	id    int
	write func(p api.Program) []byte
	read  func(r *reader, p *api.Program)
}

// sections: the image's, in their order. A section is read by what those ahead of it have said.
func sections() [5]section {
	return [...]section{
		{id: 1, write: writeNames, read: readNames},
		{id: 2, write: writeCurs, read: readCurs},
		{id: 3, write: writePool, read: readPool},
		{id: 4, write: writeNumbers, read: readNumbers},
		{id: 5, write: writeDays, read: readDays},
	}
}

func writeNames(p api.Program) []byte { return textsOf(p.Names) }

func readNames(r *reader, p *api.Program) {
	p.Names = r.texts(api.MaxNames, api.MaxName)
}

func writeCurs(p api.Program) []byte { return textsOf(p.Curs) }

func readCurs(r *reader, p *api.Program) {
	p.Curs = r.texts(api.MaxCurs, currencySize)
}

func writePool(p api.Program) []byte {
	b := appendNumber(nil, len(p.Pool))
	for i, x := range p.Pool {
		if i == 0 {
			b = octet.AppendInt(b, x)
			continue
		}
		b = appendGap(b, p.Pool[i-1], x)
	}
	return b
}

func readPool(r *reader, p *api.Program) {
	for i := range r.number(api.MaxPool) {
		if i == 0 {
			p.Pool = append(p.Pool, r.value())
			continue
		}
		p.Pool = append(p.Pool, r.behind(p.Pool[i-1], math.MaxInt))
	}
}

func writeNumbers(p api.Program) []byte {
	var b []byte
	for _, x := range [...]int{p.Horizon, p.Cells, p.Slots, p.Stack} {
		b = appendNumber(b, x)
	}
	return b
}

func readNumbers(r *reader, p *api.Program) {
	p.Horizon = r.number(api.MaxHorizon)
	p.Cells = r.number(maxCells)
	p.Slots = r.number(api.MaxSlots)
	p.Stack = r.number(api.MaxStack)
}

func writeDays(p api.Program) []byte {
	b := appendNumber(nil, len(p.Days))
	ahead := -1
	for _, s := range p.Days {
		// Behind a day -1 the first one's gap is its number.
		b = appendGap(b, ahead, s.Day)
		ahead = s.Day
		b = appendNumber(b, len(s.Code))
		// Each instruction of a canonical program is valid: there is no error.
		list, _ := code.Encode(s.Code)
		b = octet.AppendText(b, string(list))
	}
	return b
}

func readDays(r *reader, p *api.Program) {
	ahead := -1
	for range r.number(p.Horizon + 1) {
		ahead = r.behind(ahead, p.Horizon)
		p.Days = append(p.Days, api.Segment{Day: ahead, Code: r.instructions(r.number(api.MaxCode))})
	}
}

func textsOf(list []string) []byte {
	b := appendNumber(nil, len(list))
	for _, s := range list {
		b = octet.AppendText(b, s)
	}
	return b
}

func appendNumber(b []byte, x int) []byte { return octet.AppendUint(b, uint64(x)) }

// appendGap puts how far x lies behind the number ahead of it, less 1. The widest gap has room in a number without a sign alone.
func appendGap(b []byte, ahead, x int) []byte {
	return octet.AppendUint(b, uint64(x)-uint64(ahead)-1)
}
