package book

import (
	"payoff/api"
	"payoff/octet"
)

// reader reads a record's body, and keeps in mind whether something could not be read.
type reader struct {
	from  *octet.Reader
	wrong bool
}

func newReader(body []byte) *reader { return &reader{from: octet.NewReader(body)} }

// number reads one that is at most limit, which is 0 or more.
func (r *reader) number(limit int) int {
	x, e := r.from.Uint(uint64(limit))
	r.wrong = r.wrong || e != api.OK
	return int(x)
}

func (r *reader) value() int {
	v, e := r.from.Int()
	r.wrong = r.wrong || e != api.OK
	return v
}

func (r *reader) text() string {
	s, e := r.from.Text(api.MaxRecord)
	r.wrong = r.wrong || e != api.OK
	return s
}

// ended tells whether all was read, up to the body's end.
func (r *reader) ended() bool { return !r.wrong && r.from.Left() == 0 }
