package code_test

import (
	"bytes"
	"slices"
	"testing"

	"payoff/api"
	"payoff/code"
)

// all: every valid instruction of a row.
func all(r plainRow) []api.Instr {
	bounds := append(slices.Clone(r.bounds), 0, 0)
	var list []api.Instr
	for a := range bounds[0] + 1 {
		for b := range bounds[1] + 1 {
			list = append(list, api.Instr{Op: r.op, A: a, B: b})
		}
	}
	return list
}

// P1103, P1104, P1105, P1106: every valid instruction, in lists of an Op each.
func TestEveryInstruction(t *testing.T) {
	t.Parallel()
	for _, r := range plainly {
		list := all(r)
		for _, i := range list {
			if e := code.Valid(i); e != api.OK {
				t.Fatalf("Valid(%v) = %d", i, e)
			}
		}
		want, e := plainEncode(list)
		wantBytes(t, list, want, e)
		wantRead(t, want, len(list), list, 0, api.OK)
	}
}

// P1106: no instruction's bytes begin another's, so that no two lists have the same; each has at most four.
func TestNoInstructionBeginsAnother(t *testing.T) {
	t.Parallel()
	var forms [][]byte
	for _, r := range plainly {
		for _, i := range all(r) {
			b, e := code.Encode([]api.Instr{i})
			if e != api.OK || len(b) < 1 || len(b) > 4 {
				t.Fatalf("Encode(%v) = % x, %d", i, b, e)
			}
			forms = append(forms, b)
		}
	}
	slices.SortFunc(forms, bytes.Compare)
	for k := range forms[1:] {
		if bytes.HasPrefix(forms[k+1], forms[k]) {
			t.Fatalf("% x begins % x", forms[k], forms[k+1])
		}
	}
}

// spelt gives every list of bytes of this alphabet, up to this length, to a function.
func spelt(alphabet []byte, length int, told func([]byte)) {
	var b []byte
	var longer func()
	longer = func() {
		told(b)
		if len(b) == length {
			return
		}
		for _, c := range alphabet {
			b = append(b, c)
			longer()
			b = b[:len(b)-1]
		}
	}
	longer()
}

// holdDecode holds Decode against the plain reading, and Encode against what Decode takes.
func holdDecode(t *testing.T, b []byte, count int) {
	t.Helper()
	want, place, e := plainDecode(b, count)
	wantRead(t, b, count, want, place, e)
	if e == api.OK {
		wantBytes(t, want, b, api.OK)
	}
}

// P1105, P1106: all lists of up to two bytes.
func TestDecodeShort(t *testing.T) {
	every := make([]byte, 256)
	for c := range every {
		every[c] = byte(c)
	}
	spelt(every, 2, func(b []byte) {
		for count := range 4 {
			holdDecode(t, b, count)
		}
	})
}

// P1105, P1106: all lists of up to six bytes of an alphabet: instructions with none, one and two operands, and what begins, goes on with and ends numbers.
func TestDecodeSpelt(t *testing.T) {
	t.Parallel()
	for _, alphabet := range []string{"\x00\x03\x1c\x1d\x80\xcc\xff", "\x01\x02\x03\x0f\x80\xff\x7f", "\x1a\x09\x10\xff\x80\x81\x00", "\x03\x3f\x40\x1c\x1d\xcc\xcd"} {
		spelt([]byte(alphabet), 6, func(b []byte) {
			for count := range 3 {
				holdDecode(t, b, count)
			}
		})
	}
}

// P1105: each operand's numbers around its bound, with what would be a number of the same worth in more bytes.
func TestDecodeAtBounds(t *testing.T) {
	for _, r := range plainly {
		for n, bound := range r.bounds {
			ahead := append([]byte{byte(api.OpAdd), byte(r.op)}, make([]byte, n)...)
			behind := append(make([]byte, len(r.bounds)-n-1), byte(api.OpEnd))
			for _, x := range []int{0, 1, 127, 128, bound - 1, bound, bound + 1, 2 * bound, 1<<32 + bound, 1 << 62} {
				short := plainVarint(x)
				long := append(slices.Clone(short), 0)
				long[len(short)-1] |= 128
				for _, varint := range [][]byte{short, long} {
					holdDecode(t, slices.Concat(ahead, varint, behind), 3)
				}
			}
		}
	}
}

// P1105: rows of bytes that all go on: too short while they are fewer than ten, no number from ten on.
func TestDecodeEndless(t *testing.T) {
	for size := range 24 {
		for _, c := range []byte{0x80, 0xff} {
			row := bytes.Repeat([]byte{c}, size)
			e, first, second := api.ErrShort, 2+size, 3+size
			if size >= 10 {
				e, first, second = api.ErrVarint, 2, 3
			}
			wantRead(t, append([]byte{9, 1}, row...), 2, nil, first, e)
			wantRead(t, append([]byte{9, 3, 7}, row...), 2, nil, second, e)
		}
	}
	// A tenth byte of 1 is the greatest number of all, of 2 none; both are above each bound.
	for _, last := range []byte{0, 1, 2, 0x7f} {
		wantRead(t, append(append([]byte{26}, bytes.Repeat([]byte{0xff}, 9)...), last), 1, nil, 1, api.ErrVarint)
	}
}

// P1105: the first that goes wrong gives the error.
func TestDecodeFirst(t *testing.T) {
	wantRead(t, []byte{29, 2, 2}, 1, nil, 0, api.ErrOp)
	wantRead(t, []byte{9, 0xff, 2, 2}, 3, nil, 1, api.ErrOp)
	wantRead(t, []byte{2, 2, 29}, 2, nil, 1, api.ErrVarint)
	wantRead(t, []byte{3, 64, 0xcd, 0x1c}, 1, nil, 1, api.ErrVarint)
	wantRead(t, []byte{3, 63, 0xcd, 0x1c, 29}, 1, nil, 2, api.ErrVarint)
	wantRead(t, []byte{9, 29}, 1, nil, 1, api.ErrExtra)
	wantRead(t, []byte{0}, 0, nil, 0, api.ErrExtra)
	wantRead(t, []byte{29}, 0, nil, 0, api.ErrExtra)
	wantRead(t, []byte{28}, 2, nil, 1, api.ErrShort)
}
