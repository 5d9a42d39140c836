package legs

import (
	"payoff/api"
	"payoff/check"
)

// part is a contract that brings actions, and its kids; nil stands for one that brings none. So a loop around nothing is passed over, however many days it has, and what is nothing inside a loop is not gone through on each of its days.
type part struct {
	*api.Con
	kids []*part
	days []int // of its range: the offsets on day 0
}

// partOf tells what of a deal brings actions.
func partOf(d *api.Deal) *part {
	// A range's days hang on these alone; the whole deal would be looked at anew for each range.
	bare := api.Deal{Name: d.Name, Start: d.Start, Holidays: d.Holidays, Body: api.Con{Kind: api.CZero}}
	return bringing(&d.Body, &bare)
}

func bringing(c *api.Con, bare *api.Deal) *part {
	p := &part{Con: c, kids: make([]*part, len(c.Kids))}
	brings := c.Kind == api.CPay || c.Kind == api.CAccum || c.Kind == api.CWhen
	for i := range c.Kids {
		p.kids[i] = bringing(&c.Kids[i], bare)
		brings = brings || p.kids[i] != nil
	}
	if !brings {
		return nil
	}
	if c.Kind == api.CFor || c.Kind == api.CAccum {
		p.days, _ = check.Offsets(*bare, c.Range, 0)
	}
	return p
}

// offsets tells a loop's days, counted from the day on which it is acquired.
func (p *part) offsets(day int) []int {
	if p.Range.Kind == api.RangeDays {
		day = 0 // its offsets are the same on each day
	}
	offsets := make([]int, len(p.days))
	for i := range p.days {
		offsets[i] = p.days[i] - day
	}
	return offsets
}
