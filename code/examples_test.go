package code_test

import (
	"bytes"
	"slices"
	"testing"

	"payoff/api"
	"payoff/code"
)

// The examples of the chapter.

func wantName(t *testing.T, op int, want string, e api.Errno) {
	t.Helper()
	if got, err := code.Name(op); got != want || err != e {
		t.Errorf("Name(%d) = %q, %d, want %q, %d", op, got, err, want, e)
	}
}

func wantFound(t *testing.T, name string, want int, e api.Errno) {
	t.Helper()
	if got, err := code.Find(name); got != want || err != e {
		t.Errorf("Find(%q) = %d, %d, want %d, %d", name, got, err, want, e)
	}
}

func wantOperands(t *testing.T, op, want int, e api.Errno) {
	t.Helper()
	if got, err := code.Operands(op); got != want || err != e {
		t.Errorf("Operands(%d) = %d, %d, want %d, %d", op, got, err, want, e)
	}
}

func wantEffect(t *testing.T, op, takes, puts int, e api.Errno) {
	t.Helper()
	if gotTakes, gotPuts, err := code.Effect(op); gotTakes != takes || gotPuts != puts || err != e {
		t.Errorf("Effect(%d) = %d, %d, %d, want %d, %d, %d", op, gotTakes, gotPuts, err, takes, puts, e)
	}
}

func wantValid(t *testing.T, i api.Instr, e api.Errno) {
	t.Helper()
	if err := code.Valid(i); err != e {
		t.Errorf("Valid(%v) = %d, want %d", i, err, e)
	}
}

// shown cuts what a message shows, as lists may be long.
func shown[T any](list []T) []T { return list[:min(len(list), 12)] }

func wantBytes(t *testing.T, list []api.Instr, want []byte, e api.Errno) {
	t.Helper()
	if got, err := code.Encode(list); !bytes.Equal(got, want) || err != e {
		t.Errorf("Encode(%v, %d in all) = % x (%d bytes), %d, want % x (%d bytes), %d",
			shown(list), len(list), shown(got), len(got), err, shown(want), len(want), e)
	}
}

func wantRead(t *testing.T, b []byte, count int, want []api.Instr, place int, e api.Errno) {
	t.Helper()
	if got, at, err := code.Decode(b, count); !slices.Equal(got, want) || at != place || err != e {
		t.Errorf("Decode(% x (%d bytes), %d) = %v (%d), %d, %d, want %v (%d), %d, %d",
			shown(b), len(b), count, shown(got), len(got), at, err, shown(want), len(want), place, e)
	}
}

func TestExample1(t *testing.T) {
	wantName(t, 18, "ratio", api.OK)
	wantName(t, 29, "", api.ErrOp)
	wantName(t, -1, "", api.ErrOp)
	wantFound(t, "ge", 22, api.OK)
	wantFound(t, "GE", 0, api.ErrOp)
	wantFound(t, "", 0, api.ErrOp)
	wantOperands(t, 3, 2, api.OK)
	wantEffect(t, 18, 3, 1, api.OK)
	wantEffect(t, 6, 1, 1, api.OK)
}

func TestExample2(t *testing.T) {
	wantValid(t, api.Instr{Op: 3, A: 63, B: 3660}, api.OK)
	for _, i := range []api.Instr{{Op: 3, A: 64}, {Op: 3, B: 3661}, {Op: 3, A: -1}, {Op: 9, A: 1}, {Op: 2, A: 2}, {Op: 29}} {
		wantValid(t, i, api.ErrOp)
	}
}

func TestExample3(t *testing.T) {
	list, b := []api.Instr{{Op: 1, A: 300}, {Op: 9}, {Op: 0}}, []byte{1, 0xac, 2, 9, 0}
	wantBytes(t, list, b, api.OK)
	wantRead(t, b, 3, list, 0, api.OK)
	wantRead(t, b, 2, nil, 4, api.ErrExtra)
	wantRead(t, b, 4, nil, 5, api.ErrShort)
	wantRead(t, nil, 0, nil, 0, api.OK)
}

func TestExample4(t *testing.T) {
	wantRead(t, []byte{0x1d}, 1, nil, 0, api.ErrOp)
	wantRead(t, []byte{2, 2}, 1, nil, 1, api.ErrVarint)
	wantRead(t, []byte{1, 0x80, 0}, 1, nil, 1, api.ErrVarint)
	wantRead(t, []byte{3, 1}, 1, nil, 2, api.ErrShort)
	wantRead(t, []byte{1, 0x80}, 1, nil, 2, api.ErrShort)
}
