package verify_test

import (
	"math/rand"
	"slices"
	"testing"

	"payoff/api"
	"payoff/sample"
	"payoff/verify"
)

// otherwise: a program that is the same up to an instruction, and goes on in its own way behind it: the segment is no shorter, and more days may follow.
func otherwise(chance *rand.Rand, p api.Program, segment, place int) api.Program {
	days := slices.Clone(p.Days[:segment+1])
	s := &days[segment]
	if s.Code[place].Op != api.OpEnd {
		length := len(s.Code) + chance.Intn(4)
		s.Code = slices.Clone(s.Code[:place+1])
		for len(s.Code) < length-1 {
			s.Code = append(s.Code, likely(chance))
		}
		s.Code = append(s.Code, api.Instr{Op: api.OpEnd})
	}
	for day := s.Day + 1; day <= p.Horizon && chance.Intn(3) > 0; day++ {
		days = append(days, api.Segment{Day: day, Code: []api.Instr{likely(chance), {Op: api.OpEnd}}})
	}
	q := p
	q.Days = days
	return relisted(q)
}

// relisted: a program whose lists are as long as its code asks for, each of them named whole, in a last day behind all.
func relisted(p api.Program) api.Program {
	p.Days, p.Horizon = slices.Clone(p.Days), p.Horizon+1
	var names, curs, pool int
	for _, s := range p.Days {
		for _, i := range s.Code {
			switch i.Op {
			case api.OpObs:
				names = max(names, i.A+1)
			case api.OpFlow:
				curs = max(curs, i.A+1)
			case api.OpConst:
				pool = max(pool, i.A+1)
			case api.OpKeep, api.OpGet:
				p.Slots = max(p.Slots, i.A+1)
			case api.OpLoad, api.OpStore:
				p.Cells = max(p.Cells, i.A+1)
			}
		}
	}
	last := api.Segment{Day: p.Horizon, Code: []api.Instr{{Op: api.OpJump}}}
	p.Names, p.Curs, p.Pool = nil, nil, nil
	for a := range names {
		p.Names = append(p.Names, string(rune('A'+a)))
		last.Code = append(last.Code, api.Instr{Op: api.OpObs, A: a}, api.Instr{Op: api.OpDrop})
	}
	for a := range pool {
		p.Pool = append(p.Pool, a)
		last.Code = append(last.Code, api.Instr{Op: api.OpConst, A: a}, api.Instr{Op: api.OpDrop})
	}
	for a := range curs {
		p.Curs = append(p.Curs, "AA"+string(rune('A'+a)))
		last.Code = append(last.Code, api.Instr{Op: api.OpLoad}, api.Instr{Op: api.OpFlow, A: a})
		p.Cells = max(p.Cells, 1)
	}
	last.Code = append(last.Code, api.Instr{Op: api.OpEnd})
	p.Days = append(p.Days, last)
	return p
}

// P1404: what comes behind the instruction that goes wrong changes nothing, but for jumps that leave the code.
func TestToldAsSoonAsCanBe(t *testing.T) {
	t.Parallel()
	chance := rand.New(rand.NewSource(147))
	told := tally{}
	hear := func(p api.Program) {
		_, segment, place, e := verify.Verify(p)
		if e == api.OK || e == api.ErrCanon || e == api.ErrProof || e == api.ErrJump {
			return
		}
		told[e]++
		for range 4 {
			wantVerify(t, otherwise(chance, p, segment, place), api.Proof{}, segment, place, e)
		}
	}
	for turn := 0; turn < 8000 && !t.Failed(); turn++ {
		p := sample.Sound(chance.Intn)
		spoil(chance, &p)
		hear(p)
		if turn%4 == 0 {
			hear(fitted(3, ended(chance, wild(chance, 1, 2+chance.Intn(20)))))
		}
	}
	told.want(t, 10, api.ErrStack, api.ErrSort, api.ErrSlot, api.ErrBack, api.ErrDead)
}

// P1404: a jump that leaves the code is right in a longer one, and all that came ahead of it stays right.
func TestJumpInLongerCode(t *testing.T) {
	for _, op := range []string{"jump 3", "bool 1; zero 3"} {
		for extra := range 6 {
			code := op
			for range extra {
				code += "; jump 0"
			}
			p := program(t, code+"; end", "1", "0", "0")
			if op == "jump 3" {
				p.Stack = 0
			}
			place := len(p.Days[0].Code) - extra - 2
			_, _, at, e := verify.Verify(p)
			switch {
			case extra < 3:
				if e != api.ErrJump || at != place {
					t.Errorf("%s, and %d behind it: %d, %d", op, extra, at, e)
				}
			case op == "jump 3":
				if e != api.ErrDead || at != place+1 {
					t.Errorf("%s, and %d behind it: %d, %d", op, extra, at, e)
				}
			case e != api.OK:
				t.Errorf("%s, and %d behind it: %d, %d", op, extra, at, e)
			}
		}
	}
}
