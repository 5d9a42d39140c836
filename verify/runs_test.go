package verify_test

import (
	"math/rand"
	"slices"
	"testing"

	"payoff/api"
	"payoff/sample"
	"payoff/verify"
)

// run: a way through a day's code, with the values that would lie on the stack told by their sorts, and the slots by the sorts of what was kept last.
type run struct {
	stack []byte
	slots map[int]byte
}

// take takes values off the stack, and tells their sorts, the topmost last.
func (r *run) take(count int) string {
	rest := len(r.stack) - count
	taken := string(r.stack[rest:])
	r.stack = r.stack[:rest]
	return taken
}

// goThrough follows one way through a day's code, a test's outcome being told by holds; it holds P1403 at each instruction.
func goThrough(t *testing.T, s api.Segment, heights []int, holds func() bool) {
	t.Helper()
	r := run{slots: map[int]byte{}}
	for at := 0; ; {
		i := s.Code[at]
		takes, puts := plainEffect(i.Op)
		if len(r.stack) != heights[at] || len(r.stack) < len(takes) {
			t.Fatalf("instruction %d: %d values on the stack, told %d: %v", at, len(r.stack), heights[at], s.Code)
		}
		taken := r.take(len(takes))
		if takes != "x" && taken != takes {
			t.Fatalf("instruction %d takes %q: %v", at, taken, s.Code)
		}
		next := at + 1
		switch i.Op {
		case api.OpEnd:
			if len(r.stack) > 0 || at != len(s.Code)-1 {
				t.Fatalf("instruction %d ends with %d values: %v", at, len(r.stack), s.Code)
			}
			return
		case api.OpKeep:
			puts, r.slots[i.A] = taken, taken[0]
		case api.OpGet:
			kept, ok := r.slots[i.A]
			if !ok {
				t.Fatalf("instruction %d: the slot was not kept: %v", at, s.Code)
			}
			puts = string(kept)
		case api.OpObs:
			if i.B > s.Day {
				t.Fatalf("instruction %d looks ahead of day 0: %v", at, s.Code)
			}
		case api.OpJump:
			next += i.A
		case api.OpZero:
			if !holds() {
				next += i.A
			}
		}
		r.stack = append(r.stack, puts...)
		if next <= at || next >= len(s.Code) {
			t.Fatalf("instruction %d goes on at %d: %v", at, next, s.Code)
		}
		at = next
	}
}

// goAllWays follows every way through a day's code, if they are few, and else some by chance.
func goAllWays(t *testing.T, chance *rand.Rand, s api.Segment, heights []int) int {
	t.Helper()
	var way []bool // the outcomes of the tests, in their order
	for count := 1; count <= 200; count++ {
		step := 0
		goThrough(t, s, heights, func() bool {
			if step == len(way) {
				way = append(way, false)
			}
			step++
			return way[step-1]
		})
		// The next way in order: the last test that did not hold holds now.
		way = way[:step]
		last := step - 1
		for last >= 0 && way[last] {
			last--
		}
		if last < 0 {
			return count
		}
		way = append(way[:last], true)
	}
	for range 200 {
		goThrough(t, s, heights, func() bool { return chance.Intn(2) == 0 })
	}
	return 400
}

// holdRuns holds P1403 for a program, if Verify takes it.
func holdRuns(t *testing.T, chance *rand.Rand, p api.Program) int {
	t.Helper()
	proof, _, _, e := verify.Verify(p)
	if e != api.OK {
		return 0
	}
	ways, fuel := 0, 0
	for n, s := range p.Days {
		heights, e := verify.Heights(p, n)
		if e != api.OK || len(heights) != len(s.Code) || slices.Max(heights) > proof.Stack {
			t.Fatalf("Heights(%d) = %v, %d", n, heights, e)
		}
		fuel += len(s.Code)
		ways += goAllWays(t, chance, s, heights)
	}
	if fuel != proof.Fuel {
		t.Fatalf("Fuel %d of %d instructions", proof.Fuel, fuel)
	}
	return ways
}

// P1403: all ways through programs by chance.
func TestRuns(t *testing.T) {
	t.Parallel()
	chance := rand.New(rand.NewSource(145))
	ways := 0
	for range 5000 {
		p := sample.Sound(chance.Intn)
		ways += holdRuns(t, chance, p)
		spoil(chance, &p)
		ways += holdRuns(t, chance, p)
	}
	for range 1000 {
		ways += holdRuns(t, chance, fitted(3, ended(chance, wild(chance, 1, 2+chance.Intn(20)))))
	}
	if ways < 20000 {
		t.Errorf("%d ways", ways)
	}
}

// P1403: all ways through all short codes that are taken.
func TestRunsOfShortCodes(t *testing.T) {
	t.Parallel()
	ways := 0
	everyCode([]api.Instr{{Op: api.OpBool}, {Op: api.OpKeep}, {Op: api.OpGet}, {Op: api.OpDrop}, {Op: api.OpNot}, {Op: api.OpJump, A: 1}, {Op: api.OpZero}, {Op: api.OpZero, A: 1}, {Op: api.OpZero, A: 2}}, 5, func(code []api.Instr) {
		ways += holdRuns(t, nil, day1(code...))
	})
	if ways < 200 {
		t.Errorf("%d ways", ways)
	}
}

// P1401: a get is refused for its slot only if some way to it has not kept the slot, or two have kept it with different sorts.
func TestNoSlotIsLost(t *testing.T) {
	t.Parallel()
	chance := rand.New(rand.NewSource(146))
	refused := 0
	for range 4000 {
		p := fitted(3, ended(chance, wild(chance, 1, 2+chance.Intn(20))))
		s := p.Days[0]
		_, _, at, e := verify.Verify(p)
		if e != api.ErrSlot {
			continue
		}
		refused++
		sorts := map[byte]int{}
		for range 400 {
			sorts[keptOnAWay(chance, s, at)]++
		}
		delete(sorts, '-')
		if len(sorts) == 1 && sorts[0] == 0 {
			t.Fatalf("instruction %d: the slot is kept on every way, %v: %v", at, sorts, s.Code)
		}
	}
	if refused < 5 {
		t.Errorf("%d were refused for a slot", refused)
	}
}

// keptOnAWay: the sort with which the slot of a get is kept on a way by chance to it: 0, if it is not; '-', if the way passes it by.
func keptOnAWay(chance *rand.Rand, s api.Segment, get int) byte {
	state := plainState{"", map[int]string{}}
	for at := 0; at < get; {
		state, _ = plainBehind(state, s.Code[at], s.Day)
		next := plainNext(s.Code, at)
		at = next[chance.Intn(len(next))]
		if at > get {
			return '-'
		}
	}
	if sort := state.kept[s.Code[get].A]; sort != "" {
		return sort[0]
	}
	return 0
}
