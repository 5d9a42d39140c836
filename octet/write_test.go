package octet_test

import (
	"bytes"
	"encoding/binary"
	"math/big"
	"math/bits"
	"strings"
	"testing"

	"payoff/octet"
)

// numbers gives each power of two with its neighbours: all edges of the groups are among them.
func numbers() []uint64 {
	list := []uint64{0, 300, top, 0x0123456789abcdef, 0xaaaaaaaaaaaaaaaa}
	for i := range 64 {
		p := uint64(1) << i
		list = append(list, p-1, p, p+1, top-p)
	}
	return list
}

// groups is the plain reading of a varint.
func groups(x uint64) []byte {
	b := []byte{}
	for from := 0; from == 0 || from < bits.Len64(x); from += 7 {
		b = append(b, byte(x>>from)%128+128)
	}
	b[len(b)-1] -= 128
	return b
}

// P401

func TestAppendUint(t *testing.T) {
	for _, x := range numbers() {
		got := octet.AppendUint([]byte{9, 0xff}, x)
		expectBytes(t, "by groups", got, append([]byte{9, 0xff}, groups(x)...))
		expectBytes(t, "by the library", got, binary.AppendUvarint([]byte{9, 0xff}, x))
	}
}

func TestAppendInt(t *testing.T) {
	for _, u := range numbers() {
		x := int(u)
		z := new(big.Int).Mul(big.NewInt(int64(x)), big.NewInt(2))
		if x < 0 {
			z.Sub(z.Neg(z), big.NewInt(1))
		}
		if !z.IsUint64() {
			t.Fatalf("no zigzag number of %d", x)
		}
		expectBytes(t, "zigzag", octet.AppendInt([]byte{9, 0xff}, x), append([]byte{9, 0xff}, groups(z.Uint64())...))
	}
}

func TestAppendText(t *testing.T) {
	for _, s := range []string{"", "a", "\x00\xff\x80", "\xc3\x28 no text in UTF-8", strings.Repeat("x", 127), strings.Repeat("y", 128), strings.Repeat("z", 1<<14)} {
		want := append(append([]byte{9}, groups(uint64(len(s)))...), s...)
		expectBytes(t, "text", octet.AppendText([]byte{9}, s), want)
		expectBytes(t, "text behind nothing", octet.AppendText(nil, s), want[1:])
	}
}

func TestAppendWithAndWithoutSpareRoom(t *testing.T) {
	for room := range 14 {
		for name, put := range map[string]func(b []byte) []byte{
			"AppendUint": func(b []byte) []byte { return octet.AppendUint(b, top) },
			"AppendInt":  func(b []byte) []byte { return octet.AppendInt(b, least) },
			"AppendText": func(b []byte) []byte { return octet.AppendText(b, strings.Repeat("\xff", 9)+"\x01") },
		} {
			want := ff(9, 1)
			if name == "AppendText" {
				want = append([]byte{10}, want...)
			}
			memory := bytes.Repeat([]byte{0xee}, 3+room)
			b := memory[:3]
			got := put(b)
			expectBytes(t, name+": what is answered", got, append([]byte{0xee, 0xee, 0xee}, want...))
			expectBytes(t, name+": b's own bytes", b, []byte{0xee, 0xee, 0xee})
		}
	}
}

func TestAppendGoesOnBehindItself(t *testing.T) {
	b := []byte{}
	b = octet.AppendUint(b, 300)
	b = octet.AppendText(b, "ab")
	b = octet.AppendInt(b, -65)
	b = octet.AppendUint(b, 0)
	b = octet.AppendText(b, "")
	expectBytes(t, "one behind the other", b, []byte{0xac, 2, 2, 'a', 'b', 0x81, 1, 0, 0})
}
