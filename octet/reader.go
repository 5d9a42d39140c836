package octet

import (
	"bytes"
	"math"

	"payoff/api"
)

// Reader reads bytes from a place on. NewReader makes it.
type Reader struct {
	all   []byte
	place int
}

// NewReader gives a reader of b, from its first byte on.
func NewReader(b []byte) *Reader { return &Reader{all: bytes.Clone(b)} }

// Uint reads what AppendUint puts, if it is at most limit.
func (r *Reader) Uint(limit uint64) (uint64, api.Errno) {
	x, size, e := varint(r.all[r.place:])
	if e != api.OK {
		return 0, e
	}
	if x > limit {
		return 0, api.ErrVarint
	}
	r.place += size
	return x, api.OK
}

// Int reads what AppendInt puts.
func (r *Reader) Int() (int, api.Errno) {
	z, e := r.Uint(math.MaxUint64)
	return unzigzag(z), e
}

// Text reads what AppendText puts, if it has at most limit bytes.
func (r *Reader) Text(limit int) (string, api.Errno) {
	if limit < 0 {
		return "", api.ErrArg
	}
	before := r.place
	size, e := r.Uint(uint64(limit))
	if e != api.OK {
		return "", e
	}
	if size > uint64(r.Left()) {
		r.place = before
		return "", api.ErrShort
	}
	return string(r.pass(int(size))), api.OK
}

// Take reads n bytes.
func (r *Reader) Take(n int) ([]byte, api.Errno) {
	if n < 0 {
		return nil, api.ErrArg
	}
	if n > r.Left() {
		return nil, api.ErrShort
	}
	return bytes.Clone(r.pass(n)), api.OK
}

// Place tells the place of the next byte.
func (r *Reader) Place() int { return r.place }

// Left tells how many bytes are left.
func (r *Reader) Left() int { return len(r.all) - r.place }

// pass moves behind n bytes that are there; what it gives is the reader's own memory.
func (r *Reader) pass(n int) []byte {
	passed := r.all[r.place : r.place+n]
	r.place += n
	return passed
}

// varint reads the number that b begins with, and tells how many bytes it has.
func varint(b []byte) (uint64, int, api.Errno) {
	x := uint64(0)
	for i, c := range b[:min(len(b), longest)] {
		if c >= goesOn {
			x |= uint64(c-goesOn) << (groupBits * i)
			continue
		}
		// A highest group of 0 has a shorter form; the tenth has room for one bit.
		if i > 0 && c == 0 || i == longest-1 && c > 1 {
			return 0, 0, api.ErrVarint
		}
		return x | uint64(c)<<(groupBits*i), i + 1, api.OK
	}
	if len(b) < longest {
		return 0, 0, api.ErrShort
	}
	return 0, 0, api.ErrVarint
}
