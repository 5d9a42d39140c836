package journal

import (
	"bytes"

	"payoff/api"
	"payoff/octet"
)

// longestNumber is how many bytes the varint of a number of 64 bits may have.
const longestNumber = 10

// cursor goes over bytes from a place on. What does not stand there it does not pass, and tells so.
type cursor struct {
	all   []byte
	place int
}

func (c *cursor) left() []byte { return c.all[c.place:] }

// passThese moves behind these bytes, if they are the next.
func (c *cursor) passThese(b []byte) bool {
	if !bytes.HasPrefix(c.left(), b) {
		return false
	}
	c.place += len(b)
	return true
}

// passSome moves behind n bytes, which it gives; they are the cursor's own memory.
func (c *cursor) passSome(n int) ([]byte, bool) {
	left := c.left()
	if n > len(left) {
		return nil, false
	}
	c.place += n
	return left[:n], true
}

// passNumber moves behind a varint in its shortest form, if that is at most limit.
func (c *cursor) passNumber(limit int) (int, bool) {
	left := c.left()
	// A reader copies what it is to read: it is given no more than a varint may have.
	r := octet.NewReader(left[:min(len(left), longestNumber)])
	x, e := r.Uint(uint64(limit))
	c.place += r.Place()
	return int(x), e == api.OK
}
