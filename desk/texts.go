package desk

import (
	"payoff/api"
	"payoff/asm"
	"payoff/build"
	"payoff/check"
	"payoff/image"
	"payoff/table"
	"payoff/tree"
	"payoff/verify"
)

func (d *Desk) compile(c call) ([]string, api.Errno) {
	b, report := build.Compile(c.texts[0].Text, !c.says("nofold"), !c.says("noshare"))
	if report.Err != api.OK {
		return reported(c.names[0], report)
	}
	p, _, e := image.Decode(b)
	return d.keep(c.names[0], p, e)
}

func (d *Desk) assemble(c call) ([]string, api.Errno) {
	name := c.names[0]
	p, line, e := asm.Parse(c.texts[0].Text)
	if e != api.OK {
		return []string{withNumbers(name+" line", line) + " " + refused(e)}, api.OK
	}
	if _, _, _, e := verify.Verify(p); e != api.OK {
		return []string{name + " " + refused(e)}, api.OK
	}
	return d.keep(name, p, api.OK)
}

func (d *Desk) table(c call) ([]string, api.Errno) {
	name := c.names[0]
	t, place, e := table.Parse(c.texts[0].Text)
	if e != api.OK {
		return []string{name + " " + refusedAt(place, e)}, api.OK
	}
	d.tables[name] = t
	return []string{withNumbers(name, len(t.Rows)) + " rows"}, api.OK
}

func (d *Desk) print(c call) ([]string, api.Errno) {
	deal, place, e := tree.Parse(c.texts[0].Text)
	if e != api.OK {
		return []string{refusedAt(place, e)}, api.OK
	}
	text, e := tree.Print(deal)
	return linesOf(text), e
}

func (d *Desk) measure(c call) ([]string, api.Errno) {
	deal, place, e := tree.Parse(c.texts[0].Text)
	if e != api.OK {
		return []string{refusedAt(place, e)}, api.OK
	}
	m, e := check.Measure(deal)
	return []string{measured("measure", m)}, e
}

func (d *Desk) mean(c call) ([]string, api.Errno) {
	out, report := build.Mean(c.texts[0].Text, c.tables[0])
	if report.Err != api.OK {
		return reported(c.texts[0].Name, report)
	}
	return outcomeLines(out), api.OK
}
