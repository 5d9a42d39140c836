package image_test

import (
	"strings"
	"testing"

	"payoff/api"
	"payoff/image"
	"payoff/octet"
)

// holdDecode holds Decode against the plain reading, and Encode against what Decode takes.
func holdDecode(t *testing.T, b []byte) {
	t.Helper()
	want, place, e := plainDecode(b)
	wantRead(t, b, want, place, e)
	if e == api.OK {
		wantCanon(t, "what was read", want, api.OK)
		wantBytes(t, want, b, api.OK)
	}
}

// wantBody: what Decode says of the example's image with another body; the place is counted from that body on, -1 is the image's first byte.
func wantBody(t *testing.T, section int, body string, place int, e api.Errno) {
	t.Helper()
	b, at := replaced(example(), section, body)
	if place < 0 {
		at, place = 0, 0
	}
	wantRefused(t, b, at+place, e)
	holdDecode(t, b)
}

const (
	endless = "\x80\x80\x80\x80\x80\x80\x80\x80\x80\x80"
	longest = "\xff\xff\xff\xff\xff\xff\xff\xff\xff\x01" // 2^64 - 1
	beyond  = "\xff\xff\xff\xff\xff\xff\xff\xff\xff\x02"
)

// wantNumber: a number that is at most limit stands in a section behind some bytes.
func wantNumber(t *testing.T, section int, ahead string, limit int) {
	t.Helper()
	for _, short := range []string{"", "\x80", "\xff\x80", endless[:9]} {
		wantBody(t, section, ahead+short, len(ahead), api.ErrShort)
	}
	for _, no := range []string{"\x80\x00", "\x81\x80\x00", endless, endless + "\x01", longest, beyond, beyond + "\x00", plainUint(limit + 1), plainUint(limit+1) + "\x00\x00", plainUint(1<<32 + limit), plainUint(1 << 62)} {
		wantBody(t, section, ahead+no, len(ahead), api.ErrVarint)
	}
}

// P1203: sections 1 and 2: counts and texts.
func TestReadTexts(t *testing.T) {
	for _, c := range []struct{ section, most, size int }{{1, 64, 31}, {2, 4096, 3}} {
		wantNumber(t, c.section, "", c.most)
		wantBody(t, c.section, plainUint(c.most), len(plainUint(c.most)), api.ErrShort)
		wantNumber(t, c.section, "\x01", c.size)
		wantNumber(t, c.section, "\x02\x01A", c.size)
		whole := plainText(strings.Repeat("A", c.size))
		for cut := 1; cut < len(whole); cut++ {
			wantBody(t, c.section, "\x01"+whole[:cut], 1, api.ErrShort)
			wantBody(t, c.section, "\x02\x01A"+whole[:cut], 3, api.ErrShort)
		}
		wantBody(t, c.section, "\x01"+plainText(strings.Repeat("A", c.size+1)), 1, api.ErrVarint)
		wantBody(t, c.section, "\x02"+whole, 1+len(whole), api.ErrShort)
		wantBody(t, c.section, "\x01"+whole+"\x00", 1+len(whole), api.ErrExtra)
		wantBody(t, c.section, "\x00\x00", 1, api.ErrExtra)
		wantBody(t, c.section, "\x00"+endless, 1, api.ErrExtra)
	}
	// What a text says is asked of the whole program alone.
	for _, body := range []string{"\x00", "\x01\x00", "\x01\x01s", "\x01\x01\xff", "\x02\x01S\x01S", "\x02\x01S\x01T", "\x02\x01S\x00"} {
		wantBody(t, 1, body, -1, api.ErrCanon)
	}
	for _, body := range []string{"\x00", "\x01\x00", "\x01\x02EU", "\x01\x03eur", "\x02\x03EUR\x03EUR", "\x02\x03EUR\x03USD"} {
		wantBody(t, 2, body, -1, api.ErrCanon)
	}
	b, _ := replaced(example(), 1, "\x01\x01T")
	wantRead(t, b, with(func(p *api.Program) { p.Names[0] = "T" }), 0, api.OK)
}

// P1203: section 3.
func TestReadPool(t *testing.T) {
	wantNumber(t, 3, "", 16384)
	wantBody(t, 3, "\x80\x80\x01", 3, api.ErrShort)
	for _, short := range []string{"", "\x80", endless[:9]} {
		wantBody(t, 3, "\x01"+short, 1, api.ErrShort)
	}
	for _, no := range []string{"\x80\x00", endless, beyond} {
		wantBody(t, 3, "\x01"+no, 1, api.ErrVarint)
	}
	const greatest, least = "\xfe\xff\xff\xff\xff\xff\xff\xff\xff\x01", "\xff\xff\xff\xff\xff\xff\xff\xff\xff\x01"
	// Behind the greatest number no difference can stand.
	for _, any := range []string{"", "\x00", "\x01", "\x80", "\x80\x00", endless, longest} {
		wantBody(t, 3, "\x02"+greatest+any, 11, api.ErrVarint)
		wantBody(t, 3, "\x03"+greatest+any, 11, api.ErrVarint)
	}
	wantBody(t, 3, "\x01"+greatest+"\x00", 11, api.ErrExtra)
	// Ahead of it lies one that has room for just one.
	one := "\xfc\xff\xff\xff\xff\xff\xff\xff\xff\x01"
	b, _ := replaced(example(), 3, "\x02"+one+"\x00")
	wantRead(t, b, with(func(p *api.Program) { p.Pool = []int{1<<63 - 2, 1<<63 - 1} }), 0, api.OK)
	wantBody(t, 3, "\x02"+one+"\x01", 11, api.ErrVarint)
	wantBody(t, 3, "\x02"+one, 11, api.ErrShort)
	wantBody(t, 3, "\x03"+one+"\x00", 12, api.ErrVarint)
	// From the least to the greatest.
	b, _ = replaced(example(), 3, "\x02"+least+"\xfe\xff\xff\xff\xff\xff\xff\xff\xff\x01")
	wantRead(t, b, with(func(p *api.Program) { p.Pool = []int{-1 << 63, 1<<63 - 1} }), 0, api.OK)
	wantBody(t, 3, "\x02"+least+longest, 11, api.ErrVarint)
	// From 0 on: the most is 2^63 - 2.
	b, _ = replaced(example(), 3, "\x02\x00\xfe\xff\xff\xff\xff\xff\xff\xff\x7f")
	wantRead(t, b, with(func(p *api.Program) { p.Pool = []int{0, 1<<63 - 1} }), 0, api.OK)
	wantBody(t, 3, "\x02\x00\xff\xff\xff\xff\xff\xff\xff\xff\x7f", 2, api.ErrVarint)
	// From -1 on: 2^63 - 1.
	b, _ = replaced(example(), 3, "\x02\x01\xff\xff\xff\xff\xff\xff\xff\xff\x7f")
	wantRead(t, b, with(func(p *api.Program) { p.Pool = []int{-1, 1<<63 - 1} }), 0, api.OK)
	wantBody(t, 3, "\x02\x01"+plainUint(-1<<63), 2, api.ErrVarint)
	wantBody(t, 3, "\x02\x01\x05\x00", 3, api.ErrExtra)
	for _, body := range []string{"\x00", "\x01\x00", "\x03\x01\x05\x00"} {
		wantBody(t, 3, body, -1, api.ErrCanon)
	}
}

// P1203: section 4.
func TestReadNumbers(t *testing.T) {
	limits := []int{3660, 32768, 16384, 16384}
	ahead := ""
	for _, limit := range limits {
		wantNumber(t, 4, ahead, limit)
		ahead += plainUint(limit)
	}
	wantBody(t, 4, ahead+"\x00", len(ahead), api.ErrExtra)
	b, _ := replaced(example(), 4, ahead)
	wantRead(t, b, with(func(p *api.Program) { p.Horizon, p.Cells, p.Slots, p.Stack = 3660, 32768, 16384, 16384 }), 0, api.OK)
	// A lower horizon: the days are wrong, not it.
	bodies := plainBodies(example())
	bodies[3] = "\x01\x00\x00\x02"
	b = plainSeal(bodies...)
	holdDecode(t, b)
	wantRefused(t, b, strings.Index(string(b), "\x01\x03\x05\x01\x01\x1c"), api.ErrVarint)
}

// P1203: section 5: days and their instructions. The horizon is 3.
func TestReadDays(t *testing.T) {
	const day = "\x02\x02\x08\x00" // drop, end
	wantNumber(t, 5, "", 4)
	wantNumber(t, 5, "\x01", 3)
	wantNumber(t, 5, "\x01\x03", 1<<18)
	wantNumber(t, 5, "\x01\x03\x02", 1572864)
	wantNumber(t, 5, "\x02\x00"+day, 2)
	wantNumber(t, 5, "\x02\x01"+day, 1)
	wantNumber(t, 5, "\x02\x02"+day, 0)
	wantNumber(t, 5, "\x03\x00"+day+"\x00"+day, 1)
	wantNumber(t, 5, "\x02\x00"+day+"\x01", 1<<18)
	wantNumber(t, 5, "\x02\x00"+day+"\x01\x02", 1572864)
	// Behind the horizon no day can stand.
	for _, any := range []string{"", "\x00", "\x80", "\x80\x00", endless, longest, "\x00" + day} {
		wantBody(t, 5, "\x02\x03"+day+any, 6, api.ErrVarint)
		wantBody(t, 5, "\x03\x00"+day+"\x02"+day+any, 11, api.ErrVarint)
		wantBody(t, 5, "\x04\x00"+day+"\x01"+day+"\x00"+day+any, 16, api.ErrVarint)
	}
	wantBody(t, 5, "\x01\x03"+day+"\x00", 6, api.ErrExtra)
	wantBody(t, 5, "\x00\x00", 1, api.ErrExtra)
	// The instructions: what layer 11 says of them.
	for _, c := range []struct {
		count int
		list  string
		place int
		e     api.Errno
	}{
		{0, "\x00", 0, api.ErrExtra}, {1, "", 0, api.ErrShort}, {2, "\x08", 1, api.ErrShort}, {1, "\x08\x00", 1, api.ErrExtra}, {2, "\x1d\x00", 0, api.ErrOp}, {2, "\x08\x1d", 1, api.ErrOp},
		{2, "\x02\x02\x00", 1, api.ErrVarint}, {2, "\x01\x80\x00\x00", 1, api.ErrVarint}, {2, "\x08\x03\x01", 3, api.ErrShort}, {2, "\x08\x01\x80", 3, api.ErrShort}, {1 << 18, "\x08\x00", 2, api.ErrShort},
	} {
		first := "\x01\x03" + plainUint(c.count) + plainUint(len(c.list))
		wantBody(t, 5, first+c.list, len(first)+c.place, c.e)
		second := "\x02\x00" + day + "\x02" + plainUint(c.count) + plainUint(len(c.list))
		wantBody(t, 5, second+c.list+"\x00\x00", len(second)+c.place, c.e)
	}
	for cut := range 2 {
		wantBody(t, 5, "\x01\x03\x02\x02\x08\x00"[:4+cut], 3, api.ErrShort)
	}
	for _, body := range []string{"\x00", "\x01\x03\x00\x00", "\x01\x03\x01\x01\x00", "\x01\x03\x02\x02\x08\x00", "\x01\x03\x02\x02\x00\x00", "\x01\x03\x02\x02\x08\x08"} {
		wantBody(t, 5, body, -1, api.ErrCanon)
	}
}

// P1203: a horizon of 0 has room for one day, 0.
func TestReadDaysOfOne(t *testing.T) {
	seal := func(days string) []byte { return plainSeal("\x00", "\x00", "\x00", "\x00\x00\x00\x00", days) }
	wantRead(t, seal("\x01\x00\x02\x02\x08\x00"), onDays(0, 0), 0, api.OK)
	at := len(seal("")) - 4
	wantRefused(t, seal("\x02\x00\x02\x02\x08\x00"), at, api.ErrVarint)
	wantRefused(t, seal("\x01\x01\x02\x02\x08\x00"), at+1, api.ErrVarint)
	wantRead(t, seal("\x00"), api.Program{}, 0, api.OK)
	wantRefused(t, seal(""), at, api.ErrShort)
}

// P1203: the order: the length, the seal, the sections' numbers, the bodies one behind the other, the program.
func TestReadOrder(t *testing.T) {
	sections := func(ids ...int) []byte {
		var list []api.Section
		for _, id := range ids {
			list = append(list, api.Section{Id: id})
		}
		b, _ := octet.Seal("PAYOFF1\n", list)
		return b
	}
	for _, ids := range [][]int{{}, {1}, {1, 2, 3, 4}, {1, 2, 3, 4, 6}, {2, 3, 4, 5, 6}, {1, 2, 3, 4, 5, 6}, {1, 3, 4, 5, 6}, {1, 2, 3, 5}, {1, 2, 3, 4, 255}, {1, 2, 3, 4, 5, 200}} {
		wantRefused(t, sections(ids...), 8, api.ErrSection)
	}
	wantRefused(t, sections(1, 2, 3, 4, 5), 11, api.ErrShort)
	spoilt := sections(1, 2, 3, 4, 6)
	spoilt[len(spoilt)-1] ^= 1
	wantRefused(t, spoilt, len(spoilt)-4, api.ErrSum)
	wantRefused(t, nil, 0, api.ErrShort)
	wantRefused(t, []byte("PAYOFF2\n"), 6, api.ErrMagic)
	other, _ := octet.Seal("PAYOFF2\n", nil)
	wantRefused(t, other, 6, api.ErrMagic)
	// Each body has a fault of its own; then the first one's is mended, and so on.
	bodies := []string{"\x41", "\x01\x04EURO", "\x00\x00", "\x03", "\x05"}
	places, errors := []int{0, 1, 1, 1, 0}, []api.Errno{api.ErrVarint, api.ErrVarint, api.ErrExtra, api.ErrShort, api.ErrVarint}
	at := 11
	for n, body := range plainBodies(example()) {
		b := plainSeal(bodies...)
		wantRefused(t, b, at+places[n], errors[n])
		bodies[n] = body
		at += len(body) + 2
	}
	wantRead(t, plainSeal(bodies...), example(), 0, api.OK)
	bodies[2] = "\x01\x00"
	wantRefused(t, plainSeal(bodies...), 0, api.ErrCanon)
}

// P1203: a section's length has more bytes than one: the places behind it are counted on.
func TestReadBehindLongSections(t *testing.T) {
	long := []string{}
	for n := range 64 {
		long = append(long, strings.Repeat("N", 28)+string(rune('A'+n/8))+string(rune('A'+n%8)))
	}
	p := ofNames(long...)
	b, e := image.Encode(p)
	if e != api.OK {
		t.Fatal(e)
	}
	wantRead(t, b, p, 0, api.OK)
	for section := 1; section <= 5; section++ {
		b, at := replaced(p, section, plainBodies(p)[section-1]+"\x00")
		wantRefused(t, b, at+len(plainBodies(p)[section-1]), api.ErrExtra)
		holdDecode(t, b)
	}
}
