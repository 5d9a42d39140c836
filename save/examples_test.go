package save_test

import (
	"bytes"
	"slices"
	"strings"
	"testing"

	"payoff/api"
	"payoff/asm"
	"payoff/machine"
	"payoff/octet"
	"payoff/save"
	"payoff/verify"
)

// The examples of the chapter.

// program: a program as text, its lines behind each other with "; " between them.
func program(t *testing.T, text string) api.Program {
	t.Helper()
	p, line, e := asm.Parse(strings.ReplaceAll(text, "; ", "\n") + "\n")
	if e != api.OK {
		t.Fatalf("Parse(%q): line %d, %d", text, line, e)
	}
	if _, segment, place, e := verify.Verify(p); e != api.OK {
		t.Fatalf("Verify(%q): %d, %d, %d", text, segment, place, e)
	}
	return p
}

// example: example 1 of chapter 13.
func example(t *testing.T) api.Program {
	t.Helper()
	return program(t, "names A; curs EUR; pool 5; horizon 1; cells 0; slots 0; stack 2; day 1; obs A 1; const 5; mul; flow EUR; end")
}

// seen: a row of observations that are there.
func seen(values ...int) []api.Cell {
	row := []api.Cell{}
	for _, v := range values {
		row = append(row, api.Cell{Has: true, V: v})
	}
	return row
}

// behind: a machine of a program behind days with these rows.
func behind(t *testing.T, p api.Program, rows ...[]api.Cell) *machine.Machine {
	t.Helper()
	m, e := machine.New(p)
	if e != api.OK {
		t.Fatalf("New: %d", e)
	}
	for _, row := range rows {
		m.Day(row)
	}
	return m
}

// frozen: the bytes of a machine.
func frozen(t *testing.T, p api.Program, m *machine.Machine) []byte {
	t.Helper()
	b, e := save.Freeze(p, m)
	if e != api.OK {
		t.Fatalf("Freeze: %d, the state being %+v:\n%s", e, m.State(), shown(p))
	}
	return b
}

// thawed: a machine out of bytes.
func thawed(t *testing.T, p api.Program, b []byte) *machine.Machine {
	t.Helper()
	m, e := save.Thaw(p, b)
	if e != api.OK || m == nil {
		t.Fatalf("Thaw(%x): %d:\n%s", cut(b), e, shown(p))
	}
	return m
}

// wantFrozen: the bytes of a machine, between the mark and the checksum, 'm' standing for the program's mark.
func wantFrozen(t *testing.T, p api.Program, m *machine.Machine, middle string) []byte {
	t.Helper()
	want := []byte("PAYSAVE1" + strings.Replace(middle, "m", plainMark(p), 1))
	sum := octet.Crc(want)
	want = append(want, byte(sum), byte(sum>>8), byte(sum>>16), byte(sum>>24))
	before := m.State()
	b := frozen(t, p, m)
	if !bytes.Equal(b, want) {
		t.Errorf("Freeze = %x, want %x", b, want)
	}
	if !sameState(m.State(), before) {
		t.Errorf("Freeze has changed the machine: %+v, %+v", before, m.State())
	}
	return b
}

// P1602, P1605
func TestExample1(t *testing.T) {
	p := example(t)
	b := wantFrozen(t, p, behind(t, p), "\x04\x01\x04m\x02\x04\x00\x00\x00\x00\x03\x00\x04\x00")
	if len(b) != 29 {
		t.Errorf("%d bytes", len(b))
	}
	wantRead(t, p, b, api.State{})
	holdEncode(t, p, api.State{})
}

// P1602, P1603, P1605
func TestExample2(t *testing.T) {
	p := example(t)
	b := wantFrozen(t, p, behind(t, p, seen(7)), "\x04\x01\x04m\x02\x04\x01\x00\x00\x00\x03\x00\x04\x02\x01\x0e")
	wantRead(t, p, b, api.State{Today: 1, Past: [][]api.Cell{seen(7)}})
}

// P1602, P1603, P1605
func TestExample3(t *testing.T) {
	p := example(t)
	for _, row := range [][]api.Cell{nil, {}, {{}}, {{Has: false, V: 9}}} {
		b := wantFrozen(t, p, behind(t, p, row), "\x04\x01\x04m\x02\x04\x01\x00\x00\x00\x03\x00\x04\x01\x00")
		wantRead(t, p, b, api.State{Today: 1, Past: [][]api.Cell{{{}}}})
	}
}

// P1603, P1604
func TestExample4(t *testing.T) {
	p := example(t)
	b := frozen(t, p, behind(t, p))
	last := slices.Clone(b)
	last[len(last)-1]++
	wantRefused(t, p, last, 25, api.ErrSum)
	wantRefused(t, p, append(slices.Clone(b), 0), 26, api.ErrSum)
	q := example(t)
	q.Pool = []int{6}
	wantRefused(t, q, b, 11, api.ErrOther)
	wantRefused(t, p, frozen(t, q, behind(t, q)), 11, api.ErrOther)
}

// P1601, P1602
func TestExample5(t *testing.T) {
	p := example(t)
	if _, e := machine.Resume(p, api.State{Today: 3}); e != api.ErrState {
		t.Errorf("Resume: %d", e)
	}
	if e := save.Valid(p, api.State{Today: 3}); e != api.ErrState {
		t.Errorf("Valid: %d", e)
	}
	if b, e := save.Encode(p, api.State{Today: 3}); e != api.ErrState || b != nil {
		t.Errorf("Encode: %x, %d", b, e)
	}
}

// P1606, P1607
func TestExample6(t *testing.T) {
	p := example(t)
	m := behind(t, p, seen(7))
	n := thawed(t, p, frozen(t, p, m))
	for _, one := range []*machine.Machine{n, m} {
		flows, fault, e := one.Day(seen(9))
		if !slices.Equal(flows, []api.Flow{{Day: 1, Cur: "EUR", Amount: 35}}) || fault != api.NoFault || e != api.OK {
			t.Errorf("Day = %v, %d, %d", flows, fault, e)
		}
	}
}

// P1605: there is no machine: that is told ahead of what is wrong with the program.
func TestExample7(t *testing.T) {
	p := example(t)
	wrong := example(t)
	wrong.Stack = 1
	for _, q := range []api.Program{p, wrong, {Horizon: -1}} {
		if b, e := save.Freeze(q, nil); e != api.ErrArg || b != nil {
			t.Errorf("Freeze = %x, %d", b, e)
		}
	}
	if b, e := save.Freeze(wrong, behind(t, p)); e != api.ErrProof || b != nil {
		t.Errorf("Freeze = %x, %d", b, e)
	}
}
