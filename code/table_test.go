package code_test

import (
	"math"
	"strings"
	"testing"

	"payoff/api"
	"payoff/code"
)

// numbers: the Ops of package api, in the order of their numbers.
var numbers = []int{
	api.OpEnd, api.OpConst, api.OpBool, api.OpObs, api.OpLoad, api.OpStore, api.OpKeep, api.OpGet, api.OpDrop,
	api.OpAdd, api.OpSub, api.OpMul, api.OpNeg, api.OpDiv, api.OpMod, api.OpAbs, api.OpMin, api.OpMax, api.OpRatio,
	api.OpLt, api.OpLe, api.OpGt, api.OpGe, api.OpEq, api.OpNe, api.OpNot, api.OpJump, api.OpZero, api.OpFlow,
}

// P1101, P1102: each row, by the number that package api gives it.
func TestRows(t *testing.T) {
	if len(numbers) != len(plainly) {
		t.Fatalf("%d numbers, %d rows", len(numbers), len(plainly))
	}
	for i, r := range plainly {
		if numbers[i] != r.op {
			t.Errorf("%s: %d, of package api: %d", r.name, r.op, numbers[i])
		}
		wantName(t, r.op, r.name, api.OK)
		wantFound(t, r.name, r.op, api.OK)
		wantOperands(t, r.op, len(r.bounds), api.OK)
		wantEffect(t, r.op, r.takes, r.puts, api.OK)
	}
}

// noOps: numbers of no instruction, such among them as are one if they are cut to 8, 16 or 32 bits.
func noOps() []int {
	list := []int{math.MinInt, math.MinInt + 1, math.MaxInt - 1, math.MaxInt}
	for op := range 29 {
		list = append(list, -1-op, 29+op, 256+op, 1<<16+op, 1<<31+op, 1<<32+op, math.MinInt+op, op-256, op-1<<32)
	}
	return list
}

// P1101: ErrOp, and zero values beside it.
func TestNoRow(t *testing.T) {
	for _, op := range noOps() {
		wantName(t, op, "", api.ErrOp)
		wantOperands(t, op, 0, api.ErrOp)
		wantEffect(t, op, 0, 0, api.ErrOp)
		wantValid(t, api.Instr{Op: op}, api.ErrOp)
		wantBytes(t, []api.Instr{{Op: op}}, nil, api.ErrOp)
	}
}

// plainFind: the Op of a name; ErrOp, if there is none.
func plainFind(name string) (int, api.Errno) {
	for _, r := range plainly {
		if r.name == name {
			return r.op, api.OK
		}
	}
	return 0, api.ErrOp
}

// P1102: all texts of up to three small letters.
func TestFindShortNames(t *testing.T) {
	texts := []string{""}
	for first := 0; first < len(texts); first++ {
		text := texts[first]
		op, e := plainFind(text)
		wantFound(t, text, op, e)
		if len(text) < 3 {
			for c := byte('a'); c <= 'z'; c++ {
				texts = append(texts, text+string(rune(c)))
			}
		}
	}
}

// P1102: texts beside each name: a byte more, less or other; in capitals; two names.
func TestFindTextsBesideNames(t *testing.T) {
	for _, r := range plainly {
		beside := []string{strings.ToUpper(r.name), strings.ToUpper(r.name[:1]) + r.name[1:], "Op" + r.name, r.name + r.name, r.name + " ", r.name + "\n", r.name + "\x00"}
		for at := range len(r.name) + 1 {
			beside = append(beside, r.name[:at])
			for c := range 256 {
				beside = append(beside, r.name[:at]+string([]byte{byte(c)})+r.name[at:])
				if at < len(r.name) {
					beside = append(beside, r.name[:at]+string([]byte{byte(c)})+r.name[at+1:])
				}
			}
		}
		for _, text := range beside {
			op, e := plainFind(text)
			wantFound(t, text, op, e)
		}
	}
	for _, text := range []string{"\xff", "0", "29", "and", "or", "if", "true", strings.Repeat("end", 100000)} {
		wantFound(t, text, 0, api.ErrOp)
	}
}

// around: numbers at the edges of the bounds, and such as come to them if they are cut to fewer bits.
func around() []int {
	list := []int{math.MinInt, math.MinInt + 1, -1 << 32, -2, -1, 0, 1, 2, 127, 128, math.MaxInt - 1, math.MaxInt, 1 << 31, 1 << 32}
	for _, r := range plainly {
		for _, bound := range r.bounds {
			list = append(list, bound-1, bound, bound+1, -bound, 1<<32+bound, 1<<32+bound+1)
		}
	}
	return list
}

// P1103, P1104: each instruction with all operands at the edges.
func TestValid(t *testing.T) {
	edges := around()
	for op := -1; op <= 30; op++ {
		for _, a := range edges {
			for _, b := range edges {
				i := api.Instr{Op: op, A: a, B: b}
				if got, want := code.Valid(i), plainValid(i); got != want {
					t.Fatalf("Valid(%v) = %d, want %d", i, got, want)
				}
				want, e := plainEncode([]api.Instr{{Op: api.OpAdd}, i, {Op: api.OpEnd}})
				wantBytes(t, []api.Instr{{Op: api.OpAdd}, i, {Op: api.OpEnd}}, want, e)
			}
		}
	}
}
