package joint

import "payoff/api"

// part is a program of a join: its days that are not laid yet, and where the join has what its code names.
type part struct {
	left              []api.Segment
	names, curs, pool []int
	cells             int // how many the programs ahead of it have
}

func partsOf(ps []api.Program, j api.Program) []*part {
	var parts []*part
	cells := 0
	for _, p := range ps {
		parts = append(parts, &part{
			left:  p.Days,
			names: places(p.Names, j.Names),
			curs:  places(p.Curs, j.Curs),
			pool:  places(p.Pool, j.Pool),
			cells: cells,
		})
		cells += p.Cells
	}
	return parts
}

// sideBySide lays the days of all parts together.
func sideBySide(parts []*part) []api.Segment {
	var joined []api.Segment
	day := 0
days:
	for day <= api.MaxHorizon {
		next := api.MaxHorizon + 1
		for at, p := range parts {
			if p.day() == day {
				joined = append(joined, api.Segment{Day: day, Code: layDay(day, parts[at:])})
				continue days
			}
			next = min(next, p.day())
		}
		day = next
	}
	return joined
}

// layDay takes the code of a day off the parts that have it.
func layDay(day int, parts []*part) []api.Instr {
	var code []api.Instr
	for _, p := range parts {
		if p.day() == day {
			code = p.lay(code)
		}
	}
	return append(code, api.Instr{Op: api.OpEnd})
}

// day tells the first day that is left; one behind all days, if there is none.
func (p *part) day() int {
	if len(p.left) == 0 {
		return api.MaxHorizon + 1
	}
	return p.left[0].Day
}

// lay puts the first day's code behind other code, without its end: what jumped there goes on with the next part.
func (p *part) lay(code []api.Instr) []api.Instr {
	own := p.left[0].Code
	p.left = p.left[1:]
	for _, i := range own[:len(own)-1] {
		code = append(code, p.moved(i))
	}
	return code
}

// moved tells an instruction with its operand of the join's lists. Slots stay: a day's code keeps them anew, each part its own.
func (p *part) moved(i api.Instr) api.Instr {
	switch i.Op {
	case api.OpConst:
		i.A = p.pool[i.A]
	case api.OpObs:
		i.A = p.names[i.A]
	case api.OpFlow:
		i.A = p.curs[i.A]
	case api.OpLoad, api.OpStore:
		i.A += p.cells
	}
	return i
}
