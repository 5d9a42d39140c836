package journal_test

import (
	"bytes"
	"slices"
	"testing"

	"payoff/api"
	"payoff/journal"
)

// The examples of the chapter.

// P2101, P2102
func TestExample1(t *testing.T) {
	j := journal.New()
	head := []byte{0x50, 0x41, 0x59, 0x4a, 0x52, 0x4e, 0x4c, 0x31}
	if !bytes.Equal(j.Bytes(), head) || len(j.Ends()) != 0 || j.Count() != 0 {
		t.Errorf("New: %x, %v, %d", j.Bytes(), j.Ends(), j.Count())
	}
	if e := j.Append(record(7, "hi")); e != api.OK {
		t.Errorf("Append: %d", e)
	}
	want := append(head, plainSummed(0xa7, 0x00, 0x07, 0x02, 0x68, 0x69)...)
	if !bytes.Equal(j.Bytes(), want) || !slices.Equal(j.Ends(), []int{18}) || j.Count() != 1 {
		t.Errorf("%x, %v, %d, want %x", j.Bytes(), j.Ends(), j.Count(), want)
	}
}

// P2102
func TestExample2(t *testing.T) {
	j := journal.New()
	for _, kind := range []int{0, 256} {
		if e := j.Append(record(kind, "x")); e != api.ErrArg {
			t.Errorf("Append of kind %d: %d", kind, e)
		}
	}
	if e := j.Append(api.Record{Kind: 1, Body: make([]byte, 4194305)}); e != api.ErrLong {
		t.Errorf("Append of 4194305 bytes: %d", e)
	}
	wantHeld(t, j, nil)
}

// P2103
func TestExample3(t *testing.T) {
	b := filled(t, record(7, "hi")).Bytes()
	wantOpened(t, b[:17], nil, 8)
	wantOpened(t, b[:5], nil, 0)
	wantRefused(t, []byte("PAYJRNL2"), api.ErrMagic)
	wantRefused(t, []byte("X"), api.ErrMagic)
	wantOpened(t, nil, nil, 0)
	wantOpened(t, []byte{}, nil, 0)
}

// P2103, P2104, P2105
func TestExample4(t *testing.T) {
	b := filled(t, record(7, "hi"), record(8, "there")).Bytes()
	for at := range 5 {
		turned := slices.Clone(b)
		turned[18+4+at] ^= 0x20
		wantOpened(t, turned, []api.Record{record(7, "hi")}, 18)
	}
}

// P2103, P2104
func TestExample5(t *testing.T) {
	b := filled(t, record(7, "hi"), record(7, "hi")).Bytes()
	wantOpened(t, slices.Delete(slices.Clone(b), 8, 18), nil, 8)
	wantOpened(t, b[:18], []api.Record{record(7, "hi")}, 18)
}
