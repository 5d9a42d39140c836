package verify_test

import (
	"slices"
	"testing"

	"payoff/api"
	"payoff/verify"
)

// The greatest programs, and the edges of what instructions name. What they come to is worked out by hand, as the plain reading copies every state.

// repeated: so many of an instruction.
func repeated(count, op, a int) []api.Instr {
	return slices.Repeat([]api.Instr{{Op: op, A: a}}, count)
}

// big: a program of one day, of day 0, with the lists that it names.
func big(stack, slots int, parts ...[]api.Instr) api.Program {
	p := api.Program{Stack: stack, Slots: slots, Days: []api.Segment{{Code: append(slices.Concat(parts...), api.Instr{Op: api.OpEnd})}}}
	for _, i := range p.Days[0].Code {
		if i.Op == api.OpConst {
			p.Pool = []int{5}
		}
	}
	return p
}

// P1401, P1402: as many values on the stack as a program may have; with more the program cannot tell how many.
func TestHighStacks(t *testing.T) {
	t.Parallel()
	for _, height := range []int{api.MaxStack - 1, api.MaxStack} {
		p := big(height, 0, repeated(height, api.OpConst, 0), repeated(height-1, api.OpAdd, 0), repeated(1, api.OpDrop, 0))
		wantVerify(t, p, api.Proof{Stack: height, Fuel: 2*height + 1}, 0, 0, api.OK)
		heights, e := verify.Heights(p, 0)
		if e != api.OK || len(heights) != 2*height+1 {
			t.Fatalf("%d heights, %d", len(heights), e)
		}
		for at, h := range heights {
			if h != min(at, 2*height-at) {
				t.Fatalf("height %d ahead of instruction %d", h, at)
			}
		}
	}
	for _, height := range []int{api.MaxStack + 1, api.MaxCode/2 - 1} {
		p := big(api.MaxStack, 0, repeated(height, api.OpConst, 0), repeated(height, api.OpDrop, 0))
		wantVerify(t, p, api.Proof{}, 1, 0, api.ErrProof)
		// The code is looked through to its end all the same.
		p.Days[0].Code[2*height-1] = api.Instr{Op: api.OpNot}
		wantVerify(t, p, api.Proof{}, 0, 2*height-1, api.ErrSort)
		p.Days[0].Code[2*height-1] = api.Instr{Op: api.OpJump}
		wantVerify(t, p, api.Proof{}, 0, 2*height, api.ErrStack)
	}
}

// P1401: as many jumps as a program may have, over a stack as high as it may be: each test's target is some way behind it.
func TestManyJumpsOverAHighStack(t *testing.T) {
	t.Parallel()
	const height, pairs = api.MaxStack - 1, 100000
	var tests []api.Instr
	for n := range pairs {
		tests = append(tests, api.Instr{Op: api.OpBool}, api.Instr{Op: api.OpZero, A: 2 * (n * 7919 % min(5000, pairs-n))})
	}
	p := big(api.MaxStack, 0, repeated(height, api.OpConst, 0), tests, repeated(height, api.OpDrop, 0))
	fuel := 2*height + 2*pairs + 1
	wantVerify(t, p, api.Proof{Stack: api.MaxStack, Fuel: fuel}, 0, 0, api.OK)
	// One value of another sort at the bottom, on one of the ways that meet at the end.
	p = big(api.MaxStack, 0, repeated(1, api.OpBool, 0), repeated(1, api.OpZero, 2+height), repeated(1, api.OpConst, 0), repeated(height, api.OpConst, 0),
		repeated(1, api.OpJump, 1+height), repeated(1, api.OpBool, 0), repeated(height, api.OpConst, 0), repeated(height+1, api.OpDrop, 0))
	wantVerify(t, p, api.Proof{}, 0, 2+height+1+1+height, api.ErrSort)
	p.Days[0].Code[2+height+1+1] = api.Instr{Op: api.OpConst}
	wantVerify(t, p, api.Proof{Stack: height + 1, Fuel: 2 + 2*(height+1) + 1 + height + 1 + 1}, 0, 0, api.OK)
}

// keepAll: code that keeps every slot of a list as a value of one sort.
func keepAll(op int, slots []int) []api.Instr {
	code := repeated(1, op, 0)
	for _, slot := range slots {
		code = append(code, api.Instr{Op: api.OpKeep, A: slot})
	}
	return append(code, api.Instr{Op: api.OpDrop})
}

// allSlots: every slot, or every so manieth.
func allSlots(by int) []int {
	var list []int
	for slot := 0; slot < api.MaxSlots; slot += by {
		list = append(list, slot)
	}
	return list
}

// getAll: code that reads slots, with an instruction that takes each.
func getAll(slots []int, take int) []api.Instr {
	var code []api.Instr
	for _, slot := range slots {
		code = append(code, api.Instr{Op: api.OpGet, A: slot}, api.Instr{Op: take})
		if take == api.OpNeg || take == api.OpNot {
			code = append(code, api.Instr{Op: api.OpDrop})
		}
	}
	return code
}

// P1401: every slot is one of its own: each is kept as a number or a truth, and some are kept on one of two ways alone, or otherwise there.
func TestEverySlot(t *testing.T) {
	t.Parallel()
	var numbers, truths []int
	for _, slot := range allSlots(1) {
		if slot%7*slot%5 < 2 {
			numbers = append(numbers, slot)
		} else {
			truths = append(truths, slot)
		}
	}
	p := big(1, api.MaxSlots, keepAll(api.OpConst, numbers), keepAll(api.OpBool, truths), getAll(numbers, api.OpNeg), getAll(truths, api.OpNot))
	wantVerify(t, p, api.Proof{Stack: 1, Fuel: api.MaxSlots*4 + 5}, 0, 0, api.OK)

	for _, lone := range []int{0, 1, 62, 63, 64, 65, 127, 1023, 1024, 1087, 1088, 4095, 8191, 8192, 16320, 16383} {
		kept := keepAll(api.OpConst, allSlots(1))
		again := keepAll(api.OpBool, []int{lone})
		meet := slices.Concat(kept, repeated(1, api.OpBool, 0), repeated(1, api.OpZero, len(again)), again)
		for _, slot := range []int{lone - 1, lone, lone + 1, lone - 64, lone + 64, lone - 1024, lone + 1024} {
			if slot < 0 || slot >= api.MaxSlots {
				continue
			}
			p := big(1, api.MaxSlots, meet, getAll([]int{slot}, api.OpNeg))
			if slot == lone {
				wantVerify(t, p, api.Proof{}, 0, len(meet), api.ErrSlot)
			} else {
				wantVerify(t, p, api.Proof{Stack: 1, Fuel: len(meet) + 4}, 0, 0, api.OK)
			}
		}
	}
}

// P1401: many ways that meet, each with another set of many slots, take no longer than others.
func TestManyMeetingsOfManySlots(t *testing.T) {
	t.Parallel()
	const tests = 60000
	evens := allSlots(2)
	code := slices.Concat(keepAll(api.OpConst, evens), repeated(1, api.OpBool, 0))
	// One way has the even slots alone; it comes behind all tests, which are made with every slot kept.
	first := len(code)
	code = append(code, api.Instr{Op: api.OpZero})
	code = append(code, keepAll(api.OpBool, allSlots(3))...)
	code = append(code, keepAll(api.OpConst, allSlots(1))...)
	for n := range tests {
		code = append(code, api.Instr{Op: api.OpBool}, api.Instr{Op: api.OpZero, A: 2*(tests-n-1) + 1 + n/2})
	}
	code[first].A = len(code) - first - 1
	code = append(code, repeated(1+tests/2, api.OpJump, 0)...)
	right := slices.Concat(code, getAll([]int{0, 2, 16382}, api.OpNeg))
	wantVerify(t, big(1, api.MaxSlots, right), api.Proof{Stack: 1, Fuel: len(right) + 1}, 0, 0, api.OK)
	for _, slot := range []int{1, 3, 16383} {
		wantVerify(t, big(1, api.MaxSlots, code, getAll([]int{slot}, api.OpNeg)), api.Proof{}, 0, len(code), api.ErrSlot)
	}
}

// P1401: the longest jump, and one that is longer by one.
func TestLongestJump(t *testing.T) {
	t.Parallel()
	const between = api.MaxCode - 3
	p := big(1, 0, repeated(1, api.OpBool, 0), repeated(1, api.OpZero, between), repeated(between, api.OpJump, 0))
	wantVerify(t, p, api.Proof{Stack: 1, Fuel: api.MaxCode}, 0, 0, api.OK)
	for _, a := range []int{between + 1, api.MaxCode - 1} {
		p.Days[0].Code[1].A = a
		wantVerify(t, p, api.Proof{}, 0, 1, api.ErrJump)
	}
	p.Days[0].Code[1].A = between
	p.Days[0].Code[api.MaxCode-2] = api.Instr{Op: api.OpBool}
	wantVerify(t, p, api.Proof{}, 0, api.MaxCode-2, api.ErrStack)
}

// P1401, P1402: as many days as there may be; what goes wrong in the last one is told.
func TestAllDays(t *testing.T) {
	t.Parallel()
	p := api.Program{Names: []string{"A"}, Horizon: api.MaxHorizon, Stack: 1}
	for day := range api.MaxHorizon + 1 {
		p.Days = append(p.Days, api.Segment{Day: day, Code: []api.Instr{{Op: api.OpObs, B: day}, {Op: api.OpDrop}, {Op: api.OpEnd}}})
	}
	wantVerify(t, p, api.Proof{Stack: 1, Fuel: 3 * len(p.Days), Back: api.MaxHorizon}, 0, 0, api.OK)
	for _, segment := range []int{0, 1, api.MaxHorizon} {
		wantHeights(t, p, segment, []int{0, 1, 0}, api.OK)
	}
	wantHeights(t, p, api.MaxHorizon+1, nil, api.ErrRange)
	p.Days[api.MaxHorizon-1].Code[0].B++
	wantVerify(t, p, api.Proof{}, api.MaxHorizon-1, 0, api.ErrBack)
	p.Days[api.MaxHorizon-1].Code[0].B--
	p.Days[api.MaxHorizon].Code[1].Op = api.OpNot
	wantVerify(t, p, api.Proof{}, api.MaxHorizon, 1, api.ErrSort)
}

// P1401: the greatest cell and slot.
func TestGreatestCellAndSlot(t *testing.T) {
	last := func(op, a int) api.Program {
		return day1(api.Instr{Op: api.OpLoad}, api.Instr{Op: api.OpKeep}, api.Instr{Op: op, A: a}, api.Instr{Op: api.OpDrop})
	}
	hold(t, last(api.OpLoad, 32767))
	p := last(api.OpKeep, api.MaxSlots-1)
	wantVerify(t, p, api.Proof{Stack: 1, Fuel: 5}, 0, 0, api.OK)
	p.Slots--
	wantVerify(t, p, api.Proof{}, 0, 0, api.ErrCanon)
	p = day1(api.Instr{Op: api.OpLoad, A: 32767}, api.Instr{Op: api.OpStore, A: 3})
	wantVerify(t, p, api.Proof{Stack: 1, Fuel: 3}, 0, 0, api.OK)
	p = day1(api.Instr{Op: api.OpLoad, A: 3}, api.Instr{Op: api.OpStore, A: 32766})
	wantVerify(t, p, api.Proof{Stack: 1, Fuel: 3}, 0, 0, api.OK)
	p.Cells++
	wantVerify(t, p, api.Proof{}, 1, 0, api.ErrProof)
}

// P1402: segments that do not exist, as far off as can be.
func TestSegmentsThatDoNotExist(t *testing.T) {
	p := day1(api.Instr{Op: api.OpLoad}, api.Instr{Op: api.OpDrop})
	wantHeights(t, p, 0, []int{0, 1, 0}, api.OK)
	for _, segment := range []int{-1 << 63, -1, 1, 2, 1<<63 - 1} {
		wantHeights(t, p, segment, nil, api.ErrRange)
	}
}
