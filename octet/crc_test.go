package octet_test

import (
	"bytes"
	"hash/crc32"
	"math/rand"
	"sync"
	"testing"

	"payoff/octet"
)

// P408

func TestCrcOfWhatTheChapterNames(t *testing.T) {
	if got := octet.Crc([]byte("123456789")); got != 0xCBF43926 {
		t.Errorf("Crc of 123456789: %x", got)
	}
	if got := octet.Crc(nil); got != 0 {
		t.Errorf("Crc of no byte: %x", got)
	}
	if got := octet.Crc([]byte{}); got != 0 {
		t.Errorf("Crc of an empty list: %x", got)
	}
}

// plainCrc divides by the polynomial as the chapter has it, bit by bit.
func plainCrc(b []byte) uint32 {
	sum := ^uint32(0)
	for i := range 8 * len(b) {
		bit := uint32(b[i/8]>>(i%8)) & 1
		if sum>>31 != bit {
			sum = sum<<1 ^ 0x04C11DB7
		} else {
			sum <<= 1
		}
	}
	turned := uint32(0)
	for i := range 32 {
		turned |= (sum >> i & 1) << (31 - i)
	}
	return ^turned
}

func TestCrc(t *testing.T) {
	chance := rand.New(rand.NewSource(8))
	for n := range 600 {
		b := make([]byte, n)
		chance.Read(b)
		before := bytes.Clone(b)
		if got := octet.Crc(b); got != plainCrc(b) || got != crc32.ChecksumIEEE(b) {
			t.Errorf("Crc of % x: %x, want %x", b, got, plainCrc(b))
		}
		expectBytes(t, "what was handed in", b, before)
	}
	for c := range 256 {
		b := []byte{byte(c)}
		if got := octet.Crc(b); got != plainCrc(b) {
			t.Errorf("Crc of % x: %x, want %x", b, got, plainCrc(b))
		}
	}
}

func TestCrcSideBySide(t *testing.T) {
	sums := make([]uint32, 64)
	all := sync.WaitGroup{}
	for i := range sums {
		all.Go(func() { sums[i] = octet.Crc([]byte("123456789")) })
	}
	all.Wait()
	for i, sum := range sums {
		if sum != 0xCBF43926 {
			t.Errorf("Crc of call %d: %x", i, sum)
		}
	}
}
