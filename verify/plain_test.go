package verify_test

import (
	"maps"
	"slices"
	"strings"
	"testing"

	"payoff/api"
	"payoff/asm"
	"payoff/image"
	"payoff/verify"
)

// A plain reading of the chapter, against which the package is held: sorts are letters (n, t), a stack is a text, a set of slots a map, and each state is copied whole.

// plainTable: the chapter's table, by Op: the instruction, what it takes and what it puts (x: any, and the same; s: the sort that its slot has).
var plainTable = strings.Fields(`
	end:: const::n bool::t obs::n load::n store:n: keep:x:x get::s drop:x:
	add:nn:n sub:nn:n mul:nn:n neg:n:n div:nn:n mod:nn:n abs:n:n min:nn:n max:nn:n ratio:nnn:n
	lt:nn:t le:nn:t gt:nn:t ge:nn:t eq:nn:t ne:nn:t not:t:t jump:: zero:t: flow:n:`)

func plainEffect(op int) (takes, puts string) {
	parts := strings.Split(plainTable[op], ":")
	return parts[1], parts[2]
}

type plainState struct {
	stack string
	kept  map[int]string
}

// plainBehind: the state behind an instruction, or why there is none.
func plainBehind(s plainState, i api.Instr, day int) (plainState, api.Errno) {
	takes, puts := plainEffect(i.Op)
	rest := len(s.stack) - len(takes)
	if rest < 0 || i.Op == api.OpEnd && s.stack != "" {
		return s, api.ErrStack
	}
	taken := s.stack[rest:]
	if takes != "x" && taken != takes {
		return s, api.ErrSort
	}
	if i.Op == api.OpGet && s.kept[i.A] == "" {
		return s, api.ErrSlot
	}
	if i.Op == api.OpObs && i.B > day {
		return s, api.ErrBack
	}
	behind := plainState{s.stack[:rest], maps.Clone(s.kept)}
	switch puts {
	case "x":
		puts = taken
	case "s":
		puts = s.kept[i.A]
	}
	behind.stack += puts
	if i.Op == api.OpKeep {
		behind.kept[i.A] = taken
	}
	return behind, api.OK
}

// plainMeet: one state for two ways to the same instruction.
func plainMeet(a, b plainState) (plainState, api.Errno) {
	if len(a.stack) != len(b.stack) {
		return a, api.ErrStack
	}
	if a.stack != b.stack {
		return a, api.ErrSort
	}
	met := plainState{a.stack, map[int]string{}}
	for slot, sort := range a.kept {
		if b.kept[slot] == sort {
			met.kept[slot] = sort
		}
	}
	return met, api.OK
}

// plainNext: the instructions to which one hands its state, the next one first.
func plainNext(code []api.Instr, at int) []int {
	next, target := at+1, at+1+code[at].A
	switch code[at].Op {
	case api.OpEnd:
		return nil
	case api.OpJump:
		return []int{target}
	case api.OpZero:
		return []int{next, target}
	}
	return []int{next}
}

// plainDay: the states ahead of a day's instructions, up to the first that goes wrong.
func plainDay(s api.Segment) (map[int]plainState, int, api.Errno) {
	ahead := map[int]plainState{0: {"", map[int]string{}}}
	for at, i := range s.Code {
		state, ok := ahead[at]
		if !ok {
			return ahead, at, api.ErrDead
		}
		behind, e := plainBehind(state, i, s.Day)
		if e != api.OK {
			return ahead, at, e
		}
		next := plainNext(s.Code, at)
		if len(next) > 0 && (i.Op == api.OpJump || i.Op == api.OpZero) && next[len(next)-1] >= len(s.Code) {
			return ahead, at, api.ErrJump
		}
		for _, to := range next {
			handed := behind
			if there, ok := ahead[to]; ok {
				if handed, e = plainMeet(there, behind); e != api.OK {
					return ahead, at, e
				}
			}
			ahead[to] = handed
		}
	}
	return ahead, 0, api.OK
}

// plainVerify: what Verify answers, and the heights of each segment.
func plainVerify(p api.Program) (proof api.Proof, segment, place int, heights [][]int, e api.Errno) {
	if e := image.Canon(p); e != api.OK {
		return api.Proof{}, 0, 0, nil, api.ErrCanon
	}
	needs := api.Program{}
	for n, s := range p.Days {
		ahead, at, e := plainDay(s)
		if e != api.OK {
			return api.Proof{}, n, at, nil, e
		}
		var row []int
		for at, i := range s.Code {
			row = append(row, len(ahead[at].stack))
			switch i.Op {
			case api.OpObs:
				proof.Back = max(proof.Back, i.B)
			case api.OpKeep, api.OpGet:
				needs.Slots = max(needs.Slots, i.A+1)
			case api.OpLoad, api.OpStore:
				needs.Cells = max(needs.Cells, i.A+1)
			}
		}
		proof.Fuel += len(row)
		proof.Stack = max(proof.Stack, slices.Max(row))
		heights = append(heights, row)
	}
	if p.Stack != proof.Stack || p.Slots != needs.Slots || p.Cells != needs.Cells {
		return api.Proof{}, len(p.Days), 0, nil, api.ErrProof
	}
	return proof, 0, 0, heights, api.OK
}

// shown: a program as text, if it has one, cut short.
func shown(p api.Program) string {
	text, _ := asm.Print(p)
	return text[:min(len(text), 600)]
}

func wantVerify(t *testing.T, p api.Program, proof api.Proof, segment, place int, e api.Errno) {
	t.Helper()
	if x, s, at, err := verify.Verify(p); x != proof || s != segment || at != place || err != e {
		t.Errorf("Verify = %v, %d, %d, %d, want %v, %d, %d, %d:\n%s", x, s, at, err, proof, segment, place, e, shown(p))
	}
}

func wantHeights(t *testing.T, p api.Program, segment int, heights []int, e api.Errno) {
	t.Helper()
	if got, err := verify.Heights(p, segment); !slices.Equal(got, heights) || err != e {
		t.Errorf("Heights(%d) = %.300v, %d, want %.300v, %d:\n%s", segment, got, err, heights, e, shown(p))
	}
}

// hold holds both calls against the plain reading, and tells what it came to.
func hold(t *testing.T, p api.Program) api.Errno {
	t.Helper()
	proof, segment, place, heights, e := plainVerify(p)
	wantVerify(t, p, proof, segment, place, e)
	outside := api.ErrRange
	if e != api.OK {
		heights, outside = make([][]int, len(p.Days)), e
	}
	for n, row := range heights {
		wantHeights(t, p, n, row, e)
	}
	wantHeights(t, p, -1, nil, outside)
	wantHeights(t, p, len(p.Days), nil, outside)
	return e
}
