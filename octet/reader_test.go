package octet_test

import (
	"bytes"
	"math/big"
	"math/rand"
	"slices"
	"strings"
	"testing"

	"payoff/api"
	"payoff/octet"
)

// P402

func TestNewReader(t *testing.T) {
	for _, b := range [][]byte{nil, {}, {1}, ff(200)} {
		r := octet.NewReader(b)
		if r.Place() != 0 || r.Left() != len(b) {
			t.Errorf("a reader of %d bytes: place %d, left %d", len(b), r.Place(), r.Left())
		}
	}
}

func TestPlaceAndLeft(t *testing.T) {
	r := octet.NewReader([]byte{0xac, 2, 1, 'a', 3, 9, 8, 7})
	expect := func(place, left int) {
		t.Helper()
		if r.Place() != place || r.Left() != left {
			t.Errorf("place %d, left %d, want %d, %d", r.Place(), r.Left(), place, left)
		}
	}
	expect(0, 8)
	expectUint(t, r, top, 300, api.OK, 2)
	expect(2, 6)
	expectText(t, r, 1, "a", api.OK, 4)
	expect(4, 4)
	if x, e := r.Int(); x != -2 || e != api.OK {
		t.Errorf("Int() = %d, %d", x, e)
	}
	expect(5, 3)
	expectTaken(t, r, 2, "\x09\x08", api.OK, 7)
	expect(7, 1)
	expectTaken(t, r, 1, "\x07", api.OK, 8)
	expect(8, 0)
}

func TestReaderReadsTheBytesAsTheyWere(t *testing.T) {
	memory := []byte{1, 2, 3, 4, 5}
	r := octet.NewReader(memory[:4])
	copy(memory, "\x63\x63\x63\x63\x63")
	expectTaken(t, r, 2, "\x01\x02", api.OK, 2)
	expectUint(t, r, top, 3, api.OK, 3)
	expectUint(t, r, top, 4, api.OK, 4)
	expectUint(t, r, top, 0, api.ErrShort, 4)
}

func TestReaderChangesNothing(t *testing.T) {
	memory := []byte{2, 'a', 'b', 0x81, 1, 9, 8}
	before := bytes.Clone(memory)
	r := octet.NewReader(memory[:5])
	expectText(t, r, 9, "ab", api.OK, 3)
	expectUint(t, r, top, 129, api.OK, 5)
	expectBytes(t, "what was handed in", memory, before)
}

func TestReadersKnowNothingOfEachOther(t *testing.T) {
	b := []byte{1, 2}
	one, two := octet.NewReader(b), octet.NewReader(b)
	expectUint(t, one, top, 1, api.OK, 1)
	expectUint(t, two, top, 1, api.OK, 1)
	expectUint(t, one, top, 2, api.OK, 2)
	if two.Left() != 1 {
		t.Errorf("Left() = %d", two.Left())
	}
}

// P403

// plainUint is the promise, word for word, with unbounded numbers; the last answer is how many bytes the varint has.
func plainUint(left []byte, limit uint64) (uint64, api.Errno, int) {
	end := slices.IndexFunc(left, func(c byte) bool { return c < 128 })
	if end < 0 && len(left) < 10 {
		return 0, api.ErrShort, 0
	}
	size := end + 1
	if end < 0 || size > 10 || size > 1 && left[end] == 0 || size == 10 && left[end] > 1 {
		return 0, api.ErrVarint, 0
	}
	x := new(big.Int)
	for i := end; i >= 0; i-- {
		x.Add(x.Lsh(x, 7), big.NewInt(int64(left[i]%128)))
	}
	if x.Cmp(new(big.Int).SetUint64(limit)) > 0 {
		return 0, api.ErrVarint, 0
	}
	return x.Uint64(), api.OK, size
}

func holdUint(t *testing.T, b []byte, limit uint64) {
	t.Helper()
	want, e, place := plainUint(b, limit)
	expectUint(t, octet.NewReader(b), limit, want, e, place)
}

// everyText calls do with all lists of up to most bytes of an alphabet.
func everyText(alphabet []byte, most int, do func(b []byte)) {
	var grow func(b []byte)
	grow = func(b []byte) {
		do(b)
		if len(b) == most {
			return
		}
		for _, c := range alphabet {
			grow(append(b[:len(b):len(b)], c))
		}
	}
	grow(nil)
}

func TestUintOfAllShortBytes(t *testing.T) {
	everyText([]byte{0, 1, 2, 127, 128, 129, 255}, 4, func(b []byte) {
		for _, limit := range []uint64{0, 1, 127, 128, 255, 1 << 14, top} {
			holdUint(t, b, limit)
		}
	})
}

func TestUintOfLongBytes(t *testing.T) {
	for _, c := range []byte{128, 129, 255} {
		for n := range 13 {
			everyText([]byte{0, 1, 2, 127, 128, 255}, 2, func(end []byte) {
				b := append(bytes.Repeat([]byte{c}, n), end...)
				holdUint(t, b, top)
				holdUint(t, b, top-1)
				holdUint(t, b, 1<<63)
			})
		}
	}
}

func TestUintAtEveryLimit(t *testing.T) {
	for _, x := range numbers() {
		b := append(octet.AppendUint(nil, x), 0x55)
		for _, limit := range append(numbers(), x, x-1, x+1) {
			holdUint(t, b, limit)
		}
	}
}

func TestUintFromAPlaceOn(t *testing.T) {
	r := octet.NewReader(append(ff(3, 1), ff(9, 1, 0x80, 0)...))
	expectUint(t, r, top, 1<<22-1, api.OK, 4)
	expectUint(t, r, top, top, api.OK, 14)
	expectUint(t, r, top, 0, api.ErrVarint, 14)
}

// The bytes behind the first ten do not count: it is not for want of bytes that they are no number.
func TestUintShortOrTooLong(t *testing.T) {
	expectUint(t, octet.NewReader(nil), top, 0, api.ErrShort, 0)
	expectUint(t, octet.NewReader(ff(9)), 0, 0, api.ErrShort, 0)
	expectUint(t, octet.NewReader(ff(10)), top, 0, api.ErrVarint, 0)
	expectUint(t, octet.NewReader(ff(10, 1)), top, 0, api.ErrVarint, 0)
	expectUint(t, octet.NewReader(ff(9, 0)), top, 0, api.ErrVarint, 0)
	expectUint(t, octet.NewReader(ff(9, 1)), top-1, 0, api.ErrVarint, 0)
	expectUint(t, octet.NewReader(ff(9, 1)), top, top, api.OK, 10)
	expectUint(t, octet.NewReader([]byte{0}), 0, 0, api.OK, 1)
	expectUint(t, octet.NewReader([]byte{1}), 0, 0, api.ErrVarint, 0)
}

// P404

func TestInt(t *testing.T) {
	for _, u := range numbers() {
		x := int(u)
		r := octet.NewReader(append(octet.AppendInt([]byte{0}, x), 7))
		r.Take(1)
		got, e := r.Int()
		if got != x || e != api.OK || r.Left() != 1 {
			t.Errorf("Int() = %d, %d, left %d, want %d", got, e, r.Left(), x)
		}
	}
	for z, want := range []int{0, -1, 1, -2, 2, -3} {
		if got, e := octet.NewReader([]byte{byte(z)}).Int(); got != want || e != api.OK {
			t.Errorf("Int() of %d = %d, %d, want %d", z, got, e, want)
		}
	}
}

func TestIntRefusesWhatUintRefuses(t *testing.T) {
	for _, b := range [][]byte{nil, {0x80}, {0x80, 0}, {0xff, 0}, ff(9), ff(9, 0), ff(9, 2), ff(10), ff(10, 1)} {
		_, want, _ := plainUint(b, top)
		r := octet.NewReader(b)
		got, e := r.Int()
		if want == api.OK || got != 0 || e != want || r.Place() != 0 {
			t.Errorf("Int() of % x = %d, %d, place %d, want %d", b, got, e, r.Place(), want)
		}
	}
}

// P405

func plainText(left []byte, limit int) (string, api.Errno, int) {
	if limit < 0 {
		return "", api.ErrArg, 0
	}
	size, e, place := plainUint(left, uint64(limit))
	if e != api.OK {
		return "", e, 0
	}
	behind := string(left[place:])
	if size > uint64(len(behind)) {
		return "", api.ErrShort, 0
	}
	return behind[:size], api.OK, place + int(size)
}

func TestTextOfAllShortBytes(t *testing.T) {
	everyText([]byte{0, 1, 2, 3, 128, 255}, 4, func(b []byte) {
		for _, limit := range []int{least, -1, 0, 1, 2, 127, 128, most} {
			want, e, place := plainText(b, limit)
			expectText(t, octet.NewReader(b), limit, want, e, place)
		}
	})
}

func TestTextAtItsLimit(t *testing.T) {
	for _, n := range []int{0, 1, 127, 128, 1 << 14} {
		s := strings.Repeat("\xff", n)
		b := octet.AppendText(nil, s)
		expectText(t, octet.NewReader(b), n, s, api.OK, len(b))
		expectText(t, octet.NewReader(append(b, 7)), most, s, api.OK, len(b))
		if n > 0 {
			expectText(t, octet.NewReader(b), n-1, "", api.ErrVarint, 0)
			expectText(t, octet.NewReader(b[:len(b)-1]), n, "", api.ErrShort, 0)
		}
	}
}

func TestTextOfAGreatLength(t *testing.T) {
	for _, size := range []uint64{1 << 31, 1<<62 + 3, most, most + 1, top} {
		b := append(octet.AppendUint(nil, size), "abc"...)
		want := api.ErrShort
		if size > most {
			want = api.ErrVarint
		}
		expectText(t, octet.NewReader(b), most, "", want, 0)
	}
}

func TestTextTellsItsErrorsInOrder(t *testing.T) {
	expectText(t, octet.NewReader(nil), -1, "", api.ErrArg, 0)
	expectText(t, octet.NewReader(nil), 0, "", api.ErrShort, 0)
	expectText(t, octet.NewReader([]byte{5}), least, "", api.ErrArg, 0)
	expectText(t, octet.NewReader([]byte{5}), 4, "", api.ErrVarint, 0)
	expectText(t, octet.NewReader([]byte{5}), 5, "", api.ErrShort, 0)
	expectText(t, octet.NewReader([]byte{0x80, 0}), 5, "", api.ErrVarint, 0)
	expectText(t, octet.NewReader([]byte{0}), 0, "", api.OK, 1)
}

// P406

func TestTake(t *testing.T) {
	for _, b := range []string{"", "a", "\x80\xff\x00"} {
		for _, n := range []int{least, -2, -1} {
			expectTaken(t, octet.NewReader([]byte(b)), n, "", api.ErrArg, 0)
		}
		for n := range len(b) + 1 {
			expectTaken(t, octet.NewReader([]byte(b)), n, b[:n], api.OK, n)
		}
		for _, n := range []int{len(b) + 1, 1 << 40, most} {
			expectTaken(t, octet.NewReader([]byte(b)), n, "", api.ErrShort, 0)
		}
	}
}

func TestTakeFromAPlaceOn(t *testing.T) {
	r := octet.NewReader([]byte("abcde"))
	expectTaken(t, r, 2, "ab", api.OK, 2)
	expectTaken(t, r, 4, "", api.ErrShort, 2)
	expectTaken(t, r, most, "", api.ErrShort, 2)
	expectTaken(t, r, 3, "cde", api.OK, 5)
	expectTaken(t, r, 1, "", api.ErrShort, 5)
	expectTaken(t, r, -1, "", api.ErrArg, 5)
}

func TestTakeGivesNewMemory(t *testing.T) {
	b := []byte("abcdef")
	r := octet.NewReader(b)
	one, _ := r.Take(2)
	copy(one[:cap(one)], "????????")
	_ = append(one, "!!!!"...)
	two, _ := r.Take(2)
	expectBytes(t, "the next bytes", two, []byte("cd"))
	copy(two[:cap(two)], "????????")
	none, _ := r.Take(0)
	_ = append(none, "!!!!"...)
	expectTaken(t, r, 2, "ef", api.OK, 6)
	expectBytes(t, "what was handed in", b, []byte("abcdef"))
}

// P407

func TestPlaceStaysWithAnError(t *testing.T) {
	behind := [][]byte{{}, {0x80}, {0x80, 0}, {9, 1}, {0xff, 0xff, 0x7f, 1, 2}, ff(9, 2), ff(9), ff(12)}
	for _, b := range behind {
		r := octet.NewReader(append([]byte{0xac, 2}, b...))
		r.Uint(300)
		for range 3 {
			for _, refused := range []func() api.Errno{
				func() api.Errno { _, e := r.Uint(8); return e },
				func() api.Errno { _, e := r.Text(8); return e },
				func() api.Errno { _, e := r.Text(most); return e },
				func() api.Errno { _, e := r.Text(-1); return e },
				func() api.Errno { _, e := r.Take(-1); return e },
				func() api.Errno { _, e := r.Take(len(b) + 1); return e },
			} {
				if e := refused(); e == api.OK || r.Place() != 2 || r.Left() != len(b) {
					t.Errorf("behind % x: error %d, place %d, left %d", b, e, r.Place(), r.Left())
				}
			}
		}
	}
}

func TestWhatIsWrittenIsReadBack(t *testing.T) {
	chance := rand.New(rand.NewSource(4))
	for range 500 {
		b, want := []byte{}, []func(r *octet.Reader) bool{}
		for range 1 + chance.Intn(9) {
			x := chance.Uint64() >> chance.Intn(64)
			text := string(groups(x))
			switch chance.Intn(4) {
			case 0:
				b = octet.AppendUint(b, x)
				want = append(want, func(r *octet.Reader) bool { got, e := r.Uint(x); return got == x && e == api.OK })
			case 1:
				b = octet.AppendInt(b, int(x))
				want = append(want, func(r *octet.Reader) bool { got, e := r.Int(); return got == int(x) && e == api.OK })
			case 2:
				b = octet.AppendText(b, text)
				want = append(want, func(r *octet.Reader) bool { got, e := r.Text(len(text)); return got == text && e == api.OK })
			default:
				b = append(b, text...)
				want = append(want, func(r *octet.Reader) bool { got, e := r.Take(len(text)); return string(got) == text && e == api.OK })
			}
		}
		r := octet.NewReader(b)
		for i, holds := range want {
			if !holds(r) {
				t.Fatalf("piece %d of % x is not read back", i, b)
			}
		}
		if r.Left() != 0 || r.Place() != len(b) {
			t.Fatalf("place %d, left %d behind % x", r.Place(), r.Left(), b)
		}
	}
}
