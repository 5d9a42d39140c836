package save_test

import (
	"bytes"
	"encoding/binary"
	"hash/crc32"
	"slices"
	"testing"

	"payoff/api"
	"payoff/asm"
	"payoff/image"
	"payoff/machine"
	"payoff/octet"
	"payoff/save"
	"payoff/verify"
)

// A plain reading of the chapter.

func plainUint(x uint64) string { return string(binary.AppendUvarint(nil, x)) }

func plainInt(x int) string { return string(binary.AppendVarint(nil, int64(x))) }

// plainMark: the mark of a program that has an image.
func plainMark(p api.Program) string {
	b, _ := image.Encode(p)
	return string(b[len(b)-4:])
}

// plainBodies: the bodies of the four sections; the state need not be one of the program.
func plainBodies(p api.Program, s api.State) []string {
	cells, past := "", ""
	for _, v := range s.Cells {
		cells += plainInt(v)
	}
	for _, row := range s.Past {
		for _, c := range row {
			if c.Has {
				past += "\x01" + plainInt(c.V)
			} else {
				past += "\x00"
			}
		}
	}
	numbers := plainUint(uint64(s.Today)) + plainUint(uint64(s.Steps)) + plainUint(uint64(s.Fault)) + plainUint(uint64(s.Day))
	return []string{plainMark(p), numbers, cells, past}
}

// plainSeal: bodies as the sections 1, 2, .. of a state's bytes.
func plainSeal(bodies ...string) []byte {
	b := "PAYSAVE1" + plainUint(uint64(len(bodies)))
	for k, body := range bodies {
		b += plainUint(uint64(k+1)) + plainUint(uint64(len(body))) + body
	}
	return binary.LittleEndian.AppendUint32([]byte(b), crc32.ChecksumIEEE([]byte(b)))
}

func plainEncode(p api.Program, s api.State) ([]byte, api.Errno) {
	if _, e := machine.Resume(p, s); e != api.OK {
		return nil, e
	}
	b := plainSeal(plainBodies(p, s)...)
	if len(b) > 4194304 {
		return nil, api.ErrLong
	}
	return b, api.OK
}

// plainNext: the number with which a body begins, if that is its shortest form, and what stands behind it.
func plainNext(body []byte) (uint64, []byte, bool) {
	x, n := binary.Uvarint(body)
	if n <= 0 || plainUint(x) != string(body[:n]) {
		return 0, nil, false
	}
	return x, body[n:], true
}

// plainNumbers: the numbers of which a body is made, if there are just so many.
func plainNumbers(body []byte, count int) ([]uint64, bool) {
	var list []uint64
	for len(body) > 0 {
		x, rest, ok := plainNext(body)
		if !ok {
			return nil, false
		}
		list, body = append(list, x), rest
	}
	return list, len(list) == count
}

func plainSigned(z uint64) int {
	x, _ := binary.Varint(binary.AppendUvarint(nil, z))
	return int(x)
}

// plainRows: the rows of which a body is made.
func plainRows(body []byte, rows, names int) ([][]api.Cell, bool) {
	var list [][]api.Cell
	for range rows {
		var row []api.Cell
		for range names {
			if len(body) == 0 || body[0] > 1 {
				return nil, false
			}
			has := body[0] == 1
			body = body[1:]
			v := 0
			if has {
				z, rest, ok := plainNext(body)
				if !ok {
					return nil, false
				}
				v, body = plainSigned(z), rest
			}
			row = append(row, api.Cell{Has: has, V: v})
		}
		list = append(list, row)
	}
	return list, len(body) == 0
}

// plainPlaces: the places of the bodies of sealed sections whose ids have one byte each.
func plainPlaces(b []byte, sections []api.Section) []int {
	var places []int
	at := 9
	for _, s := range sections {
		_, n := binary.Uvarint(b[at+1:])
		places = append(places, at+1+n)
		at += 1 + n + len(s.Body)
	}
	return places
}

func plainDecode(p api.Program, b []byte) (api.State, int, api.Errno) {
	proof, _, _, e := verify.Verify(p)
	if e != api.OK {
		return api.State{}, 0, e
	}
	if len(b) > 4194304 {
		return api.State{}, 0, api.ErrLong
	}
	sections, place, e := octet.Unseal("PAYSAVE1", b)
	if e != api.OK {
		return api.State{}, place, e
	}
	if !slices.EqualFunc(sections, []int{1, 2, 3, 4}, func(s api.Section, id int) bool { return s.Id == id }) {
		return api.State{}, len(b) - 4, api.ErrSection
	}
	places := plainPlaces(b, sections)
	if string(sections[0].Body) != plainMark(p) {
		return api.State{}, places[0], api.ErrOther
	}
	four, ok := plainNumbers(sections[1].Body, 4)
	if !ok || slices.Max(four) > 1<<62 {
		return api.State{}, places[1], api.ErrSection
	}
	s := api.State{Today: int(four[0]), Steps: int(four[1]), Fault: api.Fault(four[2]), Day: int(four[3])}
	cells, ok := plainNumbers(sections[2].Body, p.Cells)
	if !ok {
		return api.State{}, places[2], api.ErrSection
	}
	for _, z := range cells {
		s.Cells = append(s.Cells, plainSigned(z))
	}
	if s.Past, ok = plainRows(sections[3].Body, min(s.Today, proof.Back), len(p.Names)); !ok {
		return api.State{}, places[3], api.ErrSection
	}
	if _, e := machine.Resume(p, s); e != api.OK {
		return api.State{}, places[1], e
	}
	return s, 0, api.OK
}

func sameState(a, b api.State) bool {
	return a.Today == b.Today && a.Steps == b.Steps && a.Fault == b.Fault && a.Day == b.Day &&
		slices.Equal(a.Cells, b.Cells) && slices.EqualFunc(a.Past, b.Past, slices.Equal)
}

// shown: a program as text, if it has one, cut short.
func shown(p api.Program) string {
	text, _ := asm.Print(p)
	return text[:min(len(text), 1500)]
}

// cut: the first bytes of what may be long.
func cut(b []byte) []byte { return b[:min(len(b), 300)] }

// holdEncode holds Valid and Encode against the plain reading, and Decode against what Encode takes.
func holdEncode(t *testing.T, p api.Program, s api.State) ([]byte, api.Errno) {
	t.Helper()
	want, e := plainEncode(p, s)
	if got := save.Valid(p, s); got != e {
		t.Fatalf("Valid(%+v) = %d, want %d:\n%s", s, got, e, shown(p))
	}
	b, got := save.Encode(p, s)
	if got != e || !bytes.Equal(b, want) {
		t.Fatalf("Encode(%+v) = %x, %d, want %x, %d:\n%s", s, cut(b), got, cut(want), e, shown(p))
	}
	if e == api.OK {
		wantRead(t, p, b, s)
	}
	return b, e
}

// wantRead: Decode reads a state, and Encode writes it as it was.
func wantRead(t *testing.T, p api.Program, b []byte, want api.State) {
	t.Helper()
	s, place, e := save.Decode(p, b)
	if e != api.OK || place != 0 || !sameState(s, want) {
		t.Fatalf("Decode(%x) = %+v, %d, %d, want %+v:\n%s", cut(b), s, place, e, want, shown(p))
	}
	if again, e := save.Encode(p, s); e != api.OK || !bytes.Equal(again, b) {
		t.Fatalf("Encode(%+v) = %x, %d, want %x:\n%s", s, cut(again), e, cut(b), shown(p))
	}
	m, e := save.Thaw(p, b)
	if e != api.OK || m == nil || !sameState(m.State(), want) {
		t.Fatalf("Thaw(%x) = %d, want a machine in %+v:\n%s", cut(b), e, want, shown(p))
	}
}

// wantRefused: Decode refuses bytes, and so does Thaw.
func wantRefused(t *testing.T, p api.Program, b []byte, place int, e api.Errno) {
	t.Helper()
	s, at, got := save.Decode(p, b)
	if got != e || at != place || !sameState(s, api.State{}) {
		t.Fatalf("Decode(%x) = %+v, %d, %d, want %d, %d:\n%s", cut(b), s, at, got, place, e, shown(p))
	}
	if m, got := save.Thaw(p, b); got != e || m != nil {
		t.Fatalf("Thaw(%x) = %v, %d, want %d:\n%s", cut(b), m, got, e, shown(p))
	}
}

// holdDecode holds Decode and Thaw against the plain reading.
func holdDecode(t *testing.T, p api.Program, b []byte) api.Errno {
	t.Helper()
	s, place, e := plainDecode(p, b)
	if e == api.OK {
		wantRead(t, p, b, s)
	} else {
		wantRefused(t, p, b, place, e)
	}
	return e
}
