package verify_test

import (
	"math/rand"
	"slices"
	"testing"

	"payoff/api"
	"payoff/sample"
)

// P1401, P1402: programs by chance that can be run.
func TestSoundPrograms(t *testing.T) {
	t.Parallel()
	chance := rand.New(rand.NewSource(141))
	for range 10000 {
		if e := hold(t, sample.Sound(chance.Intn)); e != api.OK || t.Failed() {
			t.Fatalf("a sound program: %d", e)
		}
	}
}

// spoil changes an instruction of a program, or leaves it out, or puts it there twice, or changes a number of the program.
func spoil(chance *rand.Rand, p *api.Program) {
	if len(p.Days) == 0 || chance.Intn(20) == 0 {
		number := []*int{&p.Stack, &p.Slots, &p.Cells, &p.Horizon}[chance.Intn(4)]
		*number += 1 - 2*chance.Intn(2)
		return
	}
	s := &p.Days[chance.Intn(len(p.Days))]
	at := chance.Intn(len(s.Code) - 1)
	switch i := &s.Code[at]; chance.Intn(6) {
	case 0:
		s.Code = slices.Delete(s.Code, at, at+1)
	case 1:
		s.Code = slices.Insert(s.Code, at, *i)
	case 2:
		i.Op, i.A, i.B = 1+chance.Intn(api.OpFlow), 0, 0
	case 3:
		i.A = max(i.A+1-2*chance.Intn(2), 0)
	case 4:
		i.B = max(i.B+1-2*chance.Intn(2), 0)
	case 5:
		s.Code[at], s.Code[at+1] = s.Code[at+1], s.Code[at]
	}
}

// tally counts what came, and wants enough of all.
type tally map[api.Errno]int

func (n tally) want(t *testing.T, count int, errors ...api.Errno) {
	t.Helper()
	for _, e := range errors {
		if n[e] < count {
			t.Errorf("%d came %d times", e, n[e])
		}
	}
}

// P1401, P1402: sound programs with something changed.
func TestSpoiltPrograms(t *testing.T) {
	t.Parallel()
	chance := rand.New(rand.NewSource(142))
	told := tally{}
	for range 20000 {
		p := sample.Sound(chance.Intn)
		for range 1 + chance.Intn(2) {
			spoil(chance, &p)
		}
		told[hold(t, p)]++
		if t.Failed() {
			return
		}
	}
	told.want(t, 30, api.OK, api.ErrCanon, api.ErrJump, api.ErrStack, api.ErrSort, api.ErrSlot, api.ErrBack, api.ErrDead, api.ErrProof)
}

// P1401, P1402: canonical programs whose code is put together without any sense.
func TestSenselessPrograms(t *testing.T) {
	t.Parallel()
	chance := rand.New(rand.NewSource(143))
	told := tally{}
	for range 20000 {
		told[hold(t, sample.Program(chance.Intn))]++
		if t.Failed() {
			return
		}
	}
	told.want(t, 50, api.ErrStack, api.ErrBack, api.ErrJump, api.ErrSlot, api.ErrProof)
}

// likely makes an instruction, with few slots and short jumps so that ways often part and meet.
func likely(chance *rand.Rand) api.Instr {
	ops := []int{
		api.OpConst, api.OpConst, api.OpBool, api.OpBool, api.OpBool, api.OpObs, api.OpLoad, api.OpStore, api.OpKeep, api.OpKeep, api.OpKeep, api.OpGet, api.OpGet, api.OpGet,
		api.OpDrop, api.OpDrop, api.OpAdd, api.OpRatio, api.OpNeg, api.OpLt, api.OpNot, api.OpFlow, api.OpJump, api.OpZero, api.OpZero, api.OpZero,
	}
	i := api.Instr{Op: ops[chance.Intn(len(ops))]}
	switch i.Op {
	case api.OpKeep, api.OpGet:
		i.A = []int{0, 1, 63, 64, 1023, 1024, 16383}[chance.Intn(7)]
	case api.OpJump, api.OpZero:
		i.A = chance.Intn(8)
	case api.OpObs:
		i.B = chance.Intn(3)
	}
	return i
}

// wild makes a day's code by going on with what is right so far, most of the time: jumps go wherever they like.
func wild(chance *rand.Rand, day, length int) api.Segment {
	s := api.Segment{Day: day}
	for range length {
		for range 40 {
			i := likely(chance)
			// As if enough came behind it for every jump.
			longer := append(append(slices.Clone(s.Code), i), slices.Repeat([]api.Instr{{Op: api.OpJump}}, 9)...)
			_, at, e := plainDay(api.Segment{Day: day, Code: longer})
			dead := e == api.ErrDead && at == len(s.Code)+1
			if e == api.OK || at > len(s.Code) && !dead || chance.Intn(150) == 0 {
				s.Code = longer[:len(s.Code)+1]
				break
			}
		}
	}
	return s
}

// ended closes a day's code: all values are dropped, and jumps that go too far are cut, most of the time.
func ended(chance *rand.Rand, s api.Segment) api.Segment {
	ahead, _, _ := plainDay(api.Segment{Day: s.Day, Code: append(slices.Clone(s.Code), slices.Repeat([]api.Instr{{Op: api.OpJump}}, 9)...)})
	s.Code = slices.Concat([]api.Instr{{Op: api.OpJump}}, s.Code, dropped(len(ahead[len(s.Code)].stack)), []api.Instr{{Op: api.OpEnd}})
	for at := range s.Code {
		if i := &s.Code[at]; (i.Op == api.OpJump || i.Op == api.OpZero) && chance.Intn(20) > 0 {
			i.A = min(i.A, len(s.Code)-at-2)
		}
	}
	return s
}

// P1401, P1402: code in which jumps go wherever they like.
func TestWildJumps(t *testing.T) {
	t.Parallel()
	chance := rand.New(rand.NewSource(144))
	told := tally{}
	for range 3000 {
		var days []api.Segment
		for day := range 1 + chance.Intn(2) {
			days = append(days, ended(chance, wild(chance, day, 2+chance.Intn(20))))
		}
		told[hold(t, fitted(3, days...))]++
		if t.Failed() {
			return
		}
	}
	told.want(t, 5, api.OK, api.ErrJump, api.ErrStack, api.ErrSort, api.ErrSlot, api.ErrBack, api.ErrDead)
}
