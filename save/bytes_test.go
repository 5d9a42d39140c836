package save_test

import (
	"slices"
	"strings"
	"testing"

	"payoff/api"
	"payoff/octet"
	"payoff/save"
)

const (
	endless = "\x80\x80\x80\x80\x80\x80\x80\x80\x80\x80"
	longest = "\xff\xff\xff\xff\xff\xff\xff\xff\xff\x01" // 2^64 - 1, and the least number
	beyond  = "\xff\xff\xff\xff\xff\xff\xff\xff\xff\x02"
)

// rich: a program that looks two days back, with two names and two cells; it has code on the days 1 and 3.
func rich(t *testing.T) api.Program {
	t.Helper()
	return program(t, "names A B; curs EUR; horizon 4; cells 2; slots 0; stack 2; day 1; obs A 1; store 1; end; day 3; obs A 2; obs B 0; add; flow EUR; end")
}

// richState: a state of it.
func richState() api.State {
	return api.State{Today: 3, Steps: 3, Cells: []int{-300, 1 << 40}, Past: [][]api.Cell{seen(70, -1), {{}, {Has: true, V: -1 << 63}}}}
}

// replaced: the bytes of the rich program's state with another body, and that body's place.
func replaced(t *testing.T, section int, body string) ([]byte, int) {
	t.Helper()
	bodies := plainBodies(rich(t), richState())
	bodies[section-1] = body
	at := 9
	for n, b := range bodies[:section] {
		at += 1 + len(plainUint(uint64(len(b))))
		if n < section-1 {
			at += len(b)
		}
	}
	return plainSeal(bodies...), at
}

// wantBody: what Decode says of another body: an error, at the body's first byte.
func wantBody(t *testing.T, section int, body string, e api.Errno) {
	t.Helper()
	b, at := replaced(t, section, body)
	wantRefused(t, rich(t), b, at, e)
	holdDecode(t, rich(t), b)
}

// P1602, P1603: the bytes themselves, and that they are read.
func TestBytes(t *testing.T) {
	p := rich(t)
	b, e := holdEncode(t, p, richState())
	want := "PAYSAVE1\x04\x01\x04" + plainMark(p) + "\x02\x04\x03\x03\x00\x00\x03\x08\xd7\x04\x80\x80\x80\x80\x80\x40\x04\x11\x01\x8c\x01\x01\x01\x00\x01" + longest
	if e != api.OK || string(b[:len(b)-4]) != want {
		t.Errorf("Encode = %x, %d, want %x", b, e, want)
	}
	s := richState()
	s.Today, s.Steps, s.Fault, s.Day = 4, 8, api.Overflow, 3
	b, e = holdEncode(t, p, s)
	if e != api.OK || string(b[15:21]) != "\x02\x04\x04\x08\x01\x03" {
		t.Errorf("Encode = %x, %d", b, e)
	}
}

// P1603: the mark of another program, or none; what the other sections say is not asked.
func TestOwner(t *testing.T) {
	own := plainMark(rich(t))
	other := plainMark(example(t))
	for _, body := range []string{"", own[:1], own[:3], own[1:], own + "\x00", own + own, other, "\x00\x00\x00\x00", own[:3] + string([]byte{own[3] ^ 1}), string([]byte{own[0] ^ 128}) + own[1:], strings.Repeat(own, 32), strings.Repeat("\x00", 20000)} {
		wantBody(t, 1, body, api.ErrOther)
	}
	for size, place := range map[int]int{0: 11, 127: 11, 128: 12, 16383: 12, 16384: 13} {
		b := plainSeal(strings.Repeat("x", size), "", "\x80", "\x02")
		wantRefused(t, rich(t), b, place, api.ErrOther)
	}
	// A seal's checksum is not the program's: it is the image's that counts.
	b, _ := replaced(t, 1, own)
	wantRead(t, rich(t), b, richState())
}

// P1603: section 2 is four numbers.
func TestCourse(t *testing.T) {
	const right = "\x03\x03\x00\x00"
	for size := range len(right) {
		wantBody(t, 2, right[:size], api.ErrSection)
		for _, no := range []string{"\x80", "\x83\x00", "\x80\x00", endless[:9], endless, longest, beyond, plainUint(1<<62 + 1), plainUint(1 << 63)} {
			wantBody(t, 2, right[:size]+no, api.ErrSection)
			wantBody(t, 2, right[:size]+no+right[size+1:], api.ErrSection)
		}
		// As great as may be read: but there is no such state.
		wantBody(t, 2, right[:size]+plainUint(1<<62)+right[size+1:], api.ErrState)
		wantBody(t, 2, right[:size]+plainUint(1<<62-1)+right[size+1:], api.ErrState)
		wantBody(t, 2, right[:size]+plainUint(1<<32+3)+right[size+1:], api.ErrState)
	}
	four := strings.Repeat(plainUint(1<<62), 4)
	wantBody(t, 2, four, api.ErrState)
	for _, more := range []string{"\x00", "\x80", "\x01\x02", four, endless, strings.Repeat("\x00", 123), strings.Repeat("\x00", 124), strings.Repeat("\x00", 20000)} {
		wantBody(t, 2, right+more, api.ErrSection)
	}
	for size, place := range map[int]int{5: 17, 127: 17, 128: 18, 16384: 19} {
		b, _ := replaced(t, 2, strings.Repeat("\x00", size))
		wantRefused(t, rich(t), b, place, api.ErrSection)
	}
}

// P1603: section 3 is as many numbers as the program has cells.
func TestCells(t *testing.T) {
	for _, no := range []string{"", "\x00", "\x80", "\x02\x80", "\x80\x00\x00", "\x00\x80\x00", "\x00\x00\x00", "\x00\x00\x80", "\x00" + endless, endless + "\x00", beyond + "\x00", longest, longest + longest[:9], longest + longest + "\x00", strings.Repeat("\x00", 200)} {
		wantBody(t, 3, no, api.ErrSection)
	}
	for body, cells := range map[string][]int{
		"\x00\x00": {0, 0}, "\x01\x02": {-1, 1}, longest + "\xfe" + longest[1:]: {-1 << 63, 1<<63 - 1}, "\x80\x01\x7f": {64, -64},
	} {
		b, _ := replaced(t, 3, body)
		s := richState()
		s.Cells = cells
		wantRead(t, rich(t), b, s)
	}
}

// P1603: section 4 is the cells of as many rows as the program, and Today, say.
func TestPast(t *testing.T) {
	for _, no := range []string{"", "\x00\x00\x00", "\x00\x00\x00\x00\x00", "\x00\x00\x00\x01", "\x00\x00\x00\x02", "\x02\x00\x00\x00", "\x02\x02\x00\x00\x00", "\x80\x00\x00\x00", "\x80\x00\x00\x00\x00", "\x81\x00\x02\x00\x00\x00", "\x00\x00\x00\xff", "\x01\x80\x00\x00\x00\x00",
		"\x00\x00\x00\x01\x80", "\x00\x00\x00\x01" + endless, "\x00\x00\x00\x01" + beyond, "\x01\x02\x01\x02\x01\x02", "\x01\x02\x01\x02\x01\x02\x01", "\x01\x02\x01\x02\x01\x02\x01\x02\x01", "\x00\x00\x00\x00" + endless, strings.Repeat("\x00", 300)} {
		wantBody(t, 4, no, api.ErrSection)
	}
	for body, past := range map[string][][]api.Cell{
		"\x00\x00\x00\x00":         {{{}, {}}, {{}, {}}},
		"\x01\x00\x00\x00\x01\x03": {{{Has: true, V: 0}, {}}, {{}, {Has: true, V: -2}}},
		"\x00\x01" + longest + "\x01\xfe" + longest[1:] + "\x00": {{{}, {Has: true, V: -1 << 63}}, {{Has: true, V: 1<<63 - 1}, {}}},
	} {
		b, _ := replaced(t, 4, body)
		s := richState()
		s.Past = past
		wantRead(t, rich(t), b, s)
	}
	// As many rows as Today is, but not more than are looked back to.
	p := rich(t)
	for today := range 6 {
		for rows := range 5 {
			bodies := []string{plainMark(p), plainUint(uint64(today)) + "\x00\x00\x00", "\x00\x00", strings.Repeat("\x00\x01\x05", rows)}
			b := plainSeal(bodies...)
			if rows != min(today, 2) {
				wantRefused(t, p, b, len(b)-4-len(bodies[3]), api.ErrSection)
				continue
			}
			row := []api.Cell{{}, {Has: true, V: -3}}
			wantRead(t, p, b, api.State{Today: today, Cells: []int{0, 0}, Past: slices.Repeat([][]api.Cell{row}, rows)})
		}
	}
}

// P1603: what can be read, but is no state, is told at section 2, whatever is wrong with it.
func TestNoStates(t *testing.T) {
	p := rich(t)
	for _, body := range []string{"\x06\x00\x00\x00", "\x03\x04\x00\x00", "\x02\x04\x00\x00", "\x03\x00\x00\x01", "\x03\x00\x01\x02", "\x04\x00\x01\x02", "\x04\x00\x04\x03", "\x04\x00\x01\x04", "\x05\x00\x03\x04"} {
		wantBody(t, 2, body, api.ErrState)
	}
	for _, body := range []string{"\x02\x03\x00\x00", "\x03\x00\x00\x00", "\x02\x00\x01\x01", "\x04\x08\x02\x03", "\x04\x00\x03\x03", "\x05\x08\x00\x00"} {
		b, _ := replaced(t, 2, body)
		if e := holdDecode(t, p, b); e != api.OK {
			t.Errorf("%x: %d", body, e)
		}
	}
	// Ahead of day 0 all cells are 0.
	wantRead(t, p, plainSeal(plainMark(p), "\x00\x00\x00\x00", "\x00\x00", ""), api.State{Cells: []int{0, 0}})
	for _, cells := range []string{"\x02\x00", "\x00\x01"} {
		wantRefused(t, p, plainSeal(plainMark(p), "\x00\x00\x00\x00", cells, ""), 17, api.ErrState)
	}
	wantRefused(t, p, plainSeal(plainMark(p), "\x00\x01\x00\x00", "\x00\x00", ""), 17, api.ErrState)
	wantRefused(t, p, plainSeal(plainMark(p), "\x00\x00\x01\x00", "\x00\x00", ""), 17, api.ErrState)
}

// P1603: sections that are not just the four.
func TestSections(t *testing.T) {
	p := rich(t)
	bodies := plainBodies(p, richState())
	for _, ids := range [][]int{{}, {1}, {4}, {1, 2, 3}, {2, 3, 4}, {1, 2, 4}, {1, 2, 3, 5}, {1, 3, 4, 5}, {2, 3, 4, 5}, {1, 2, 3, 255}, {1, 2, 3, 4, 5}, {1, 2, 3, 4, 200}, {1, 2, 3, 4, 5, 6, 7, 8}} {
		for _, spoilt := range []bool{false, true} {
			var list []api.Section
			for n, id := range ids {
				s := api.Section{Id: id}
				if n < len(bodies) && !spoilt {
					s.Body = []byte(bodies[n])
				}
				list = append(list, s)
			}
			b, e := octet.Seal("PAYSAVE1", list)
			if e != api.OK {
				t.Fatalf("Seal: %d", e)
			}
			wantRefused(t, p, b, len(b)-4, api.ErrSection)
			holdDecode(t, p, b)
		}
	}
}

// P1603: the seal: each error and place of layer 4.
func TestSeal(t *testing.T) {
	p := rich(t)
	b, _ := holdEncode(t, p, richState())
	for size := range b {
		want := api.ErrSum
		place := size - 4
		if size < 13 {
			want, place = api.ErrShort, size
		}
		wantRefused(t, p, b[:size], place, want)
		holdDecode(t, p, b[:size])
	}
	for bit := range 8 * len(b) {
		turned := slices.Clone(b)
		turned[bit/8] ^= 1 << (bit % 8)
		want, place := api.ErrSum, len(b)-4
		if bit < 64 {
			want, place = api.ErrMagic, bit/8
		}
		wantRefused(t, p, turned, place, want)
	}
	wantRefused(t, p, []byte("PAYOFF1\n"), 3, api.ErrMagic)
	sealed := func(middle string) []byte {
		b := []byte("PAYSAVE1" + middle)
		sum := octet.Crc(b)
		return append(b, byte(sum), byte(sum>>8), byte(sum>>16), byte(sum>>24))
	}
	for middle, want := range map[string]struct {
		place int
		e     api.Errno
	}{
		"\x41":                 {8, api.ErrSection},
		"\x80\x00":             {8, api.ErrVarint},
		"\x01\x02\x05a":        {12, api.ErrShort},
		"\x02\x03\x00\x03\x00": {11, api.ErrSection},
		"\x00\x07":             {9, api.ErrExtra},
		"\x04\x01\x00\x02\x00\x03\x00\x04\x00\x00": {17, api.ErrExtra},
		"\x04\x01\x00\x02\x00\x03\x00\x04\x01":     {17, api.ErrShort},
	} {
		wantRefused(t, p, sealed(middle), want.place, want.e)
		holdDecode(t, p, sealed(middle))
	}
}

// P1603: the order in which it is looked: each fault hides those behind it.
func TestOrder(t *testing.T) {
	p := rich(t)
	wrong := rich(t)
	wrong.Cells = 3
	right := plainBodies(p, richState())
	bodies := []string{"no", "\x03\x03\x00", "\x00", "\x02"}
	for _, b := range [][]byte{nil, {0}, make([]byte, api.MaxRecord+1), plainSeal(), plainSeal(bodies...), plainSeal(right...)} {
		wantRefused(t, wrong, b, 0, api.ErrProof)
	}
	wantRefused(t, api.Program{Horizon: -1}, plainSeal(right...), 0, api.ErrCanon)
	wantRefused(t, p, append(plainSeal(right...), make([]byte, api.MaxRecord)...), 0, api.ErrLong)
	wantRefused(t, p, plainSeal(bodies[:3]...), len(plainSeal(bodies[:3]...))-4, api.ErrSection)
	wantRefused(t, p, plainSeal(bodies...), 11, api.ErrOther)
	bodies[0] = right[0]
	wantRefused(t, p, plainSeal(bodies...), 17, api.ErrSection)
	bodies[1] = "\x03\x04\x00\x00" // a step too many, which is told last
	wantRefused(t, p, plainSeal(bodies...), 23, api.ErrSection)
	bodies[2] = right[2]
	wantRefused(t, p, plainSeal(bodies...), 25+len(right[2]), api.ErrSection)
	bodies[3] = right[3]
	wantRefused(t, p, plainSeal(bodies...), 17, api.ErrState)
	bodies[1] = right[1]
	wantRead(t, p, plainSeal(bodies...), richState())
}

// P1601, P1602: what Resume says of a state, ahead of all else.
func TestStatesThatAreNone(t *testing.T) {
	p := rich(t)
	odd := api.Cell{Has: false, V: 1}
	for n, spoil := range []func(s *api.State){
		func(s *api.State) { s.Today = -1 },
		func(s *api.State) { s.Today = 6 },
		func(s *api.State) { s.Today = 1 },
		func(s *api.State) { s.Steps = -1 },
		func(s *api.State) { s.Steps = 4 },
		func(s *api.State) { s.Cells = s.Cells[:1] },
		func(s *api.State) { s.Cells = append(s.Cells, 0) },
		func(s *api.State) { s.Past = s.Past[1:] },
		func(s *api.State) { s.Past = append(s.Past, seen(1, 2)) },
		func(s *api.State) { s.Past[0] = s.Past[0][:1] },
		func(s *api.State) { s.Past[1] = seen(1, 2, 3) },
		func(s *api.State) { s.Past[1][0] = odd },
		func(s *api.State) { s.Fault = -1 },
		func(s *api.State) { s.Fault = 4 },
		func(s *api.State) { s.Fault, s.Day = 1, 2 },
		func(s *api.State) { s.Day = 2 },
		func(s *api.State) { s.Day = -1 },
		func(s *api.State) { *s = api.State{} },
		func(s *api.State) { *s = api.State{Cells: []int{0, 1}} },
	} {
		s := richState()
		spoil(&s)
		if e := save.Valid(p, s); e != api.ErrState {
			t.Errorf("%d: Valid(%+v) = %d", n, s, e)
		}
		holdEncode(t, p, s)
		wrong := rich(t)
		wrong.Stack = 5
		if e := save.Valid(wrong, s); e != api.ErrProof {
			t.Errorf("%d: Valid of what is no program = %d", n, e)
		}
		holdEncode(t, wrong, s)
	}
	holdEncode(t, p, richState())
	holdEncode(t, p, api.State{Cells: []int{0, 0}})
}
