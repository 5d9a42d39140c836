package octet_test

import (
	"bytes"
	"fmt"
	"testing"

	"payoff/api"
	"payoff/octet"
)

// The examples of the chapter.

const (
	least = -1 << 63
	most  = 1<<63 - 1
	top   = 1<<64 - 1
	mark  = "PAYOFF1\n"
)

// ff gives n bytes that all go on, with all bits 1, and then others.
func ff(n int, then ...byte) []byte { return append(bytes.Repeat([]byte{0xff}, n), then...) }

// short gives bytes for a message: no more of them than can be read.
func short(b []byte) string {
	if len(b) > 40 {
		return fmt.Sprintf("% x .. (%d bytes)", b[:40], len(b))
	}
	return fmt.Sprintf("% x", b)
}

func expectBytes(t *testing.T, what string, got, want []byte) {
	t.Helper()
	if !bytes.Equal(got, want) {
		t.Errorf("%s: %s, want %s", what, short(got), short(want))
	}
}

func expectUint(t *testing.T, r *octet.Reader, limit, want uint64, e api.Errno, place int) {
	t.Helper()
	got, err := r.Uint(limit)
	if got != want || err != e || r.Place() != place {
		t.Errorf("Uint(%d) = %d, %d, place %d, want %d, %d, place %d", limit, got, err, r.Place(), want, e, place)
	}
}

func expectText(t *testing.T, r *octet.Reader, limit int, want string, e api.Errno, place int) {
	t.Helper()
	got, err := r.Text(limit)
	if got != want || err != e || r.Place() != place {
		t.Errorf("Text(%d) = %q, %d, place %d, want %q, %d, place %d", limit, got, err, r.Place(), want, e, place)
	}
}

func expectTaken(t *testing.T, r *octet.Reader, n int, want string, e api.Errno, place int) {
	t.Helper()
	got, err := r.Take(n)
	if string(got) != want || err != e || r.Place() != place {
		t.Errorf("Take(%d) = % x, %d, place %d, want % x, %d, place %d", n, got, err, r.Place(), want, e, place)
	}
}

// summed gives b with its checksum behind it.
func summed(b string) []byte {
	sum := octet.Crc([]byte(b))
	return append([]byte(b), byte(sum), byte(sum>>8), byte(sum>>16), byte(sum>>24))
}

func expectRefused(t *testing.T, b []byte, place int, e api.Errno) {
	t.Helper()
	got, at, err := octet.Unseal(mark, b)
	if len(got) != 0 || at != place || err != e {
		t.Errorf("Unseal(%s) = %d sections, %d, %d, want none, %d, %d", short(b), len(got), at, err, place, e)
	}
}

// bare gives sections with these Ids and no bodies.
func bare(ids ...int) []api.Section {
	sections := make([]api.Section, len(ids))
	for i, id := range ids {
		sections[i].Id = id
	}
	return sections
}

func TestExample1(t *testing.T) {
	expectBytes(t, "0", octet.AppendUint(nil, 0), []byte{0})
	expectBytes(t, "127", octet.AppendUint(nil, 127), []byte{0x7f})
	expectBytes(t, "128", octet.AppendUint(nil, 128), []byte{0x80, 0x01})
	expectBytes(t, "300", octet.AppendUint(nil, 300), []byte{0xac, 0x02})
	expectBytes(t, "the greatest", octet.AppendUint(nil, top), ff(9, 1))
	expectBytes(t, "-1", octet.AppendInt(nil, -1), []byte{1})
	expectBytes(t, "1", octet.AppendInt(nil, 1), []byte{2})
	expectBytes(t, "the least", octet.AppendInt(nil, least), ff(9, 1))
	expectBytes(t, "ab", octet.AppendText([]byte{9}, "ab"), []byte{9, 2, 0x61, 0x62})
}

func TestExample2(t *testing.T) {
	r := octet.NewReader([]byte{0xac, 0x02, 0x07})
	expectUint(t, r, 300, 300, api.OK, 2)
	expectUint(t, r, 6, 0, api.ErrVarint, 2)
	expectUint(t, r, 7, 7, api.OK, 3)
	if r.Left() != 0 {
		t.Errorf("Left() = %d", r.Left())
	}
	expectUint(t, r, 7, 0, api.ErrShort, 3)
}

func TestExample3(t *testing.T) {
	expectUint(t, octet.NewReader([]byte{0x80, 0}), top, 0, api.ErrVarint, 0)
	expectUint(t, octet.NewReader([]byte{0x80}), top, 0, api.ErrShort, 0)
	expectUint(t, octet.NewReader(bytes.Repeat([]byte{0x80}, 10)), top, 0, api.ErrVarint, 0)
	expectUint(t, octet.NewReader(ff(9, 2)), top, 0, api.ErrVarint, 0)
	expectUint(t, octet.NewReader(ff(9)), top, 0, api.ErrShort, 0)
}

func TestExample4(t *testing.T) {
	r := octet.NewReader([]byte{3, 0x61, 0x62})
	expectText(t, r, 9, "", api.ErrShort, 0)
	expectText(t, r, 2, "", api.ErrVarint, 0)
	expectText(t, r, -1, "", api.ErrArg, 0)
	expectTaken(t, r, 4, "", api.ErrShort, 0)
	expectTaken(t, r, 3, "\x03ab", api.OK, 3)
	expectTaken(t, r, 0, "", api.OK, 3)
}

func TestExample5(t *testing.T) {
	got, e := octet.Seal(mark, nil)
	if e != api.OK {
		t.Errorf("Seal of no sections: %d", e)
	}
	expectBytes(t, "no sections", got, summed(mark+"\x00"))
	for _, c := range []struct {
		mark string
		ids  []int
		want api.Errno
	}{
		{"short", []int{1}, api.ErrArg},
		{mark, []int{2, 2}, api.ErrSection},
		{mark, []int{3, 2}, api.ErrSection},
		{mark, []int{0}, api.ErrSection},
		{mark, []int{1, 200}, api.OK},
	} {
		if _, e := octet.Seal(c.mark, bare(c.ids...)); e != c.want {
			t.Errorf("Seal(%q, %v): %d, want %d", c.mark, c.ids, e, c.want)
		}
	}
}

func TestExample6(t *testing.T) {
	expectRefused(t, []byte("PAY"), 3, api.ErrShort)
	expectRefused(t, []byte("PAX"), 2, api.ErrMagic)
	expectRefused(t, []byte(mark+"abcd"), 12, api.ErrShort)
}

func TestExample7(t *testing.T) {
	expectRefused(t, summed(mark+"\x01\x02\x05\x61"), 12, api.ErrShort)
	expectRefused(t, summed(mark+"\x41"), 8, api.ErrSection)
	expectRefused(t, summed(mark+"\x02\x03\x00\x03\x00"), 11, api.ErrSection)
	expectRefused(t, summed(mark+"\x00\x07"), 9, api.ErrExtra)
	expectRefused(t, summed(mark+"\x80\x00"), 8, api.ErrVarint)
}
