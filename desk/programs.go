package desk

import (
	"payoff/api"
	"payoff/asm"
	"payoff/build"
	"payoff/fan"
	"payoff/image"
	"payoff/joint"
	"payoff/verify"
)

// keep puts a program under a name, if it could be made, and tells how long its image is.
func (d *Desk) keep(name string, p api.Program, e api.Errno) ([]string, api.Errno) {
	if e != api.OK {
		return nil, e
	}
	d.programs[name] = p
	return []string{sized(name, imageOf(p))}, api.OK
}

// imageOf tells the image of a program of the desk, which has one.
func imageOf(p api.Program) []byte {
	b, _ := image.Encode(p)
	return b
}

func (d *Desk) list(c call) ([]string, api.Errno) {
	text, e := asm.Print(c.programs[0])
	return linesOf(text), e
}

func (d *Desk) run(c call) ([]string, api.Errno) {
	out, e := build.Run(imageOf(c.programs[0]), c.tables[0])
	return outcomeLines(out), e
}

func (d *Desk) needs(c call) ([]string, api.Errno) {
	pairs, e := build.Needs(imageOf(c.programs[0]))
	return each(pairs, needLine), e
}

func (d *Desk) proof(c call) ([]string, api.Errno) {
	proof, _, _, e := verify.Verify(c.programs[0])
	return []string{proofLine(proof)}, e
}

func (d *Desk) join(c call) ([]string, api.Errno) {
	p, e := joint.Join(c.programs)
	return d.keep(c.names[0], p, e)
}

func (d *Desk) later(c call) ([]string, api.Errno) {
	p, e := joint.Later(c.programs[0], c.numbers[0])
	return d.keep(c.names[0], p, e)
}

func (d *Desk) rename(c call) ([]string, api.Errno) {
	p, e := joint.Rename(c.programs[0], c.names[0], c.names[1])
	return d.keep(c.names[2], p, e)
}

func (d *Desk) fan(c call) ([]string, api.Errno) {
	totals, first, fault, e := fan.Totals(c.programs[0], c.tables, c.numbers[0])
	if e == api.OK && fault != api.NoFault && first >= 0 {
		return []string{withNumbers("scenario", first), faultLine(fault)}, api.OK
	}
	return totalLines(totals, fault), e
}
