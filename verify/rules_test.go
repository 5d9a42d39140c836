package verify_test

import (
	"slices"
	"testing"

	"payoff/api"
)

// fitted: a program of days whose code names no more than the first of each list, with the lists and the numbers that it needs, as far as its code is right.
func fitted(horizon int, days ...api.Segment) api.Program {
	p := api.Program{Horizon: horizon, Days: days}
	for _, s := range days {
		ahead, _, _ := plainDay(s)
		for _, state := range ahead {
			p.Stack = min(max(p.Stack, len(state.stack)), api.MaxStack)
		}
		for _, i := range s.Code {
			switch i.Op {
			case api.OpObs:
				p.Names = []string{"A"}
			case api.OpFlow:
				p.Curs = []string{"EUR"}
			case api.OpConst:
				p.Pool = []int{5}
			case api.OpKeep, api.OpGet:
				p.Slots = max(p.Slots, i.A+1)
			case api.OpLoad, api.OpStore:
				p.Cells = max(p.Cells, i.A+1)
			}
		}
	}
	return p
}

// day1: a program of one day, behind whose code end is put.
func day1(code ...api.Instr) api.Program {
	return fitted(1, api.Segment{Day: 1, Code: append(slices.Clone(code), api.Instr{Op: api.OpEnd})})
}

// pushed: code that puts values of these sorts on the stack.
func pushed(sorts string) []api.Instr {
	var code []api.Instr
	for _, sort := range sorts {
		if sort == 'n' {
			code = append(code, api.Instr{Op: api.OpConst})
		} else {
			code = append(code, api.Instr{Op: api.OpBool})
		}
	}
	return code
}

func dropped(count int) []api.Instr {
	return slices.Repeat([]api.Instr{{Op: api.OpDrop}}, count)
}

// stacks: all stacks up to a height.
func stacks(height int) []string {
	list := []string{""}
	for from := 0; len(list[from]) < height; from++ {
		list = append(list, list[from]+"n", list[from]+"t")
	}
	return list
}

// P1401, P1402: every instruction over every stack of up to four values; what is left behind it is looked at by each instruction that takes one value.
func TestEveryInstruction(t *testing.T) {
	t.Parallel()
	told := map[api.Errno]int{}
	for op := api.OpConst; op <= api.OpFlow; op++ {
		for _, stack := range stacks(4) {
			one := api.Instr{Op: op}
			code := append(pushed(stack), one)
			takes, puts := plainEffect(op)
			height := len(stack) - len(takes) + len(puts)
			for _, probe := range []int{api.OpDrop, api.OpNeg, api.OpNot} {
				for extra := -1; extra <= 1; extra++ {
					rest := append([]api.Instr{{Op: probe}}, dropped(max(height+extra, 0))...)
					told[hold(t, day1(slices.Concat(code, rest)...))]++
				}
			}
			told[hold(t, day1(slices.Concat(code, dropped(max(height, 0)))...))]++
		}
	}
	for _, e := range []api.Errno{api.OK, api.ErrStack, api.ErrSort, api.ErrSlot} {
		if told[e] < 20 {
			t.Errorf("%d came %d times", e, told[e])
		}
	}
}

// everyCode gives all codes up to a length, of an alphabet of instructions as asm writes them, to a function.
func everyCode(alphabet []api.Instr, length int, told func([]api.Instr)) {
	var code []api.Instr
	var longer func()
	longer = func() {
		if len(code) > 0 {
			told(code)
		}
		if len(code) == length {
			return
		}
		for _, i := range alphabet {
			code = append(code, i)
			longer()
			code = code[:len(code)-1]
		}
	}
	longer()
}

// P1401, P1402: all short codes of many instructions, and longer ones of those over which ways part and meet.
func TestAllShortCodes(t *testing.T) {
	t.Parallel()
	told := map[api.Errno]int{}
	most := []api.Instr{
		{Op: api.OpConst}, {Op: api.OpBool, A: 1}, {Op: api.OpObs, B: 1}, {Op: api.OpObs, B: 2}, {Op: api.OpLoad}, {Op: api.OpStore, A: 1},
		{Op: api.OpKeep}, {Op: api.OpKeep, A: 1}, {Op: api.OpGet}, {Op: api.OpDrop}, {Op: api.OpAdd}, {Op: api.OpLt}, {Op: api.OpNot},
		{Op: api.OpJump}, {Op: api.OpJump, A: 1}, {Op: api.OpZero}, {Op: api.OpZero, A: 1}, {Op: api.OpFlow},
	}
	few := []api.Instr{{Op: api.OpConst}, {Op: api.OpBool}, {Op: api.OpKeep}, {Op: api.OpGet}, {Op: api.OpDrop}, {Op: api.OpJump, A: 1}, {Op: api.OpZero, A: 1}, {Op: api.OpZero, A: 2}}
	for _, a := range []struct {
		alphabet []api.Instr
		length   int
	}{{most, 3}, {few, 5}} {
		everyCode(a.alphabet, a.length, func(code []api.Instr) {
			if !t.Failed() {
				told[hold(t, day1(code...))]++
			}
		})
	}
	for _, e := range []api.Errno{api.OK, api.ErrJump, api.ErrStack, api.ErrSort, api.ErrSlot, api.ErrBack, api.ErrDead} {
		if told[e] < 50 {
			t.Errorf("%d came %d times", e, told[e])
		}
	}
}

// P1401: where several things are wrong with one instruction, the first of the chapter's list is told.
func TestWhichIsFirst(t *testing.T) {
	refused(t, "jump 1; drop; end", 0, 1, api.ErrDead)
	refused(t, "jump 1; get 0; end", 0, 1, api.ErrDead)
	refused(t, "jump 1; jump 9; end", 0, 1, api.ErrDead)
	refused(t, "jump 1; obs A 2; end", 0, 1, api.ErrDead)
	refused(t, "bool 1; add; end", 0, 1, api.ErrStack)
	refused(t, "bool 1; bool 1; ratio down; end", 0, 2, api.ErrStack)
	refused(t, "zero 9; end", 0, 0, api.ErrStack)
	refused(t, "const 5; zero 9; end", 0, 1, api.ErrSort)
	refused(t, "bool 1; zero 9; end", 0, 1, api.ErrJump)
	// The state behind zero 9 would not fit the one that flow or end has.
	refused(t, "bool 1; zero 3; const 5; bool 1; zero 9; end", 0, 4, api.ErrJump)
	refused(t, "bool 1; zero 3; const 5; bool 1; zero 0; end", 0, 4, api.ErrStack)
	// To the next instruction the state is handed first, and then to the target, whatever is wrong there.
	refused(t, "bool 1; zero 8; bool 1; bool 1; zero 4; drop; const 5; bool 1; zero 1; drop; end", 0, 8, api.ErrSort)
	refused(t, "bool 1; zero 7; bool 1; bool 1; zero 5; drop; const 5; bool 1; zero 1; drop; end", 0, 8, api.ErrStack)
	// Of the heights and the sorts: three values, or two of other sorts.
	refused(t, "const 5; bool 1; bool 1; zero 2; drop; const 5; drop; drop; end", 0, 5, api.ErrSort)
	refused(t, "const 5; bool 1; bool 1; zero 2; drop; drop; drop; drop; end", 0, 5, api.ErrStack)
	// What was wrong ahead counts, not what is worse.
	refused(t, "const 5; drop; drop; jump 9; end", 0, 2, api.ErrStack)
	refused(t, "jump 0; end; day 2; obs A 3; drop; end; day 3; get 0; end", 1, 0, api.ErrBack)
}

// P1401: what is kept where ways meet.
func TestKeptWhereWaysMeet(t *testing.T) {
	taken(t, "const 5; keep 0; drop; bool 1; keep 0; drop; get 0; not; drop; end", "1", "0", api.Proof{Stack: 1, Fuel: 10}, 0, 1, 1, 0, 1, 1, 0, 1, 1, 0)
	refused(t, "const 5; keep 0; drop; bool 1; keep 0; drop; get 0; neg; drop; end", 0, 7, api.ErrSort)
	taken(t, "bool 1; zero 4; const 5; keep 0; drop; jump 3; const 5; keep 0; drop; get 0; neg; drop; end", "1", "0", api.Proof{Stack: 1, Fuel: 13}, 0, 1, 0, 1, 1, 0, 0, 1, 1, 0, 1, 1, 0)
	refused(t, "bool 1; zero 4; const 5; keep 0; drop; jump 3; bool 1; keep 0; drop; get 0; drop; end", 0, 9, api.ErrSlot)
	// Kept ahead of the test: both ways have it, whatever one of them keeps beside it.
	taken(t, "bool 1; keep 0; zero 3; const 5; keep 1; drop; get 0; drop; end", "2", "0", api.Proof{Stack: 1, Fuel: 9}, 0, 1, 1, 0, 1, 1, 0, 1, 0)
	refused(t, "bool 1; keep 0; zero 3; const 5; keep 0; drop; get 0; drop; end", 0, 6, api.ErrSlot)
	taken(t, "const 5; keep 0; drop; bool 1; zero 3; const 5; keep 0; drop; get 0; drop; end", "1", "0", api.Proof{Stack: 1, Fuel: 11}, 0, 1, 1, 0, 1, 0, 1, 1, 0, 1, 0)
	// Gone where two ways met, it is kept again later.
	taken(t, "bool 1; zero 3; const 5; keep 0; drop; bool 1; keep 0; drop; get 0; zero 0; end", "1", "0", api.Proof{Stack: 1, Fuel: 11}, 0, 1, 0, 1, 1, 0, 1, 1, 0, 1, 0)
	// Three ways: the last one has not kept it.
	refused(t, "bool 1; zero 8; const 5; keep 0; drop; bool 1; zero 3; const 5; keep 0; drop; get 0; drop; end", 0, 10, api.ErrSlot)
}

// P1401: each of the program's own numbers must be just what the code needs.
func TestNumbersOfTheProgram(t *testing.T) {
	p := program(t, "load 2; keep 1; store 0; end; day 2; bool 1; bool 0; drop; drop; end; day 3; const 5; flow EUR; end", "2", "2", "3")
	wantVerify(t, p, api.Proof{Stack: 2, Fuel: 12}, 0, 0, api.OK)
	for n, heights := range [][]int{{0, 1, 1, 0}, {0, 1, 2, 1, 0}, {0, 1, 0}} {
		wantHeights(t, p, n, heights, api.OK)
	}
	for _, number := range []*int{&p.Stack, &p.Slots, &p.Cells} {
		for _, off := range []int{1, 2, 100} {
			*number += off
			wantVerify(t, p, api.Proof{}, 3, 0, api.ErrProof)
			wantHeights(t, p, 0, nil, api.ErrProof)
			wantHeights(t, p, 3, nil, api.ErrProof)
			*number -= off
		}
	}
	p.Stack = 1
	wantVerify(t, p, api.Proof{}, 3, 0, api.ErrProof)
	p.Stack, p.Slots = 2, 1
	wantVerify(t, p, api.Proof{}, 0, 0, api.ErrCanon)
	p.Slots, p.Cells = 2, 2
	wantVerify(t, p, api.Proof{}, 0, 0, api.ErrCanon)
}

// P1401: the proof's Back is the greatest of all days, and so are the other numbers, wherever they come.
func TestNumbersOfAllDays(t *testing.T) {
	back := func(days ...int) api.Program {
		var list []api.Segment
		for n, b := range days {
			list = append(list, api.Segment{Day: n * 10, Code: []api.Instr{{Op: api.OpObs, B: b}, {Op: api.OpFlow}, {Op: api.OpEnd}}})
		}
		return fitted(100, list...)
	}
	for _, c := range []struct {
		days []int
		want int
	}{{[]int{0}, 0}, {[]int{0, 10}, 10}, {[]int{0, 10, 3}, 10}, {[]int{0, 3, 10, 20}, 20}, {[]int{0, 0, 0, 1}, 1}} {
		wantVerify(t, back(c.days...), api.Proof{Stack: 1, Fuel: 3 * len(c.days), Back: c.want}, 0, 0, api.OK)
	}
	wantVerify(t, back(0, 11), api.Proof{}, 1, 0, api.ErrBack)
	wantVerify(t, back(1, 11), api.Proof{}, 0, 0, api.ErrBack)
	for _, order := range [][]string{{"n", "nn", "nnn"}, {"nnn", "t", "nt"}, {"", "tttt", ""}} {
		var list []api.Segment
		highest, fuel := 0, 0
		for n, stack := range order {
			code := slices.Concat([]api.Instr{{Op: api.OpJump}}, pushed(stack), dropped(len(stack)), []api.Instr{{Op: api.OpEnd}})
			list = append(list, api.Segment{Day: n, Code: code})
			highest, fuel = max(highest, len(stack)), fuel+len(code)
		}
		wantVerify(t, fitted(3, list...), api.Proof{Stack: highest, Fuel: fuel}, 0, 0, api.OK)
	}
}
