package image

import (
	"payoff/api"
	"payoff/code"
	"payoff/octet"
)

// refusal is the panic with which reading gives up.
type refusal struct {
	place int
	e     api.Errno
}

// refusalOf tells why and where reading gave up, if it did. Any other panic is not the reader's, and goes on.
func refusalOf(cause any) (refusal, bool) {
	switch cause := cause.(type) {
	case nil:
		return refusal{}, false
	case refusal:
		return cause, true
	default:
		panic(cause)
	}
}

// readProgram reads the program that an image's sections say.
func readProgram(sealed []api.Section) api.Program {
	rules := sections()
	if len(sealed) != len(rules) {
		panic(refusal{len(mark), api.ErrSection})
	}
	for i, s := range sealed {
		if s.Id != rules[i].id {
			panic(refusal{len(mark), api.ErrSection})
		}
	}
	var p api.Program
	at := len(mark) + width(len(sealed))
	for i, s := range sealed {
		at += width(s.Id) + width(len(s.Body))
		r := &reader{octet.NewReader(s.Body), at}
		rules[i].read(r, &p)
		r.mustEnd()
		at += len(s.Body)
	}
	if !canonical(p) {
		panic(refusal{0, api.ErrCanon})
	}
	return p
}

// width tells how many bytes a number has.
func width(x int) int { return len(appendNumber(nil, x)) }

// reader reads a section's body. Where that cannot be read, it gives up with the place at which its octet.Reader stands: one that refuses something stays ahead of it.
type reader struct {
	*octet.Reader
	begin int // the body's place in the image
}

func (r *reader) giveUp(e api.Errno) {
	panic(refusal{r.begin + r.Place(), e})
}

func (r *reader) must(e api.Errno) {
	if e != api.OK {
		r.giveUp(e)
	}
}

func (r *reader) mustEnd() {
	if r.Left() > 0 {
		r.giveUp(api.ErrExtra)
	}
}

func (r *reader) number(limit int) int {
	x, e := r.Uint(uint64(limit))
	r.must(e)
	return int(x)
}

func (r *reader) value() int {
	x, e := r.Int()
	r.must(e)
	return x
}

// behind reads what appendGap writes, and tells the number, which is at most last.
func (r *reader) behind(ahead, last int) int {
	if ahead == last {
		r.giveUp(api.ErrVarint)
	}
	gap, e := r.Uint(uint64(last) - uint64(ahead) - 1)
	r.must(e)
	return int(uint64(ahead) + gap + 1)
}

// texts reads so many texts at most, each of at most that many bytes.
func (r *reader) texts(most, size int) []string {
	var list []string
	for range r.number(most) {
		s, e := r.Text(size)
		r.must(e)
		list = append(list, s)
	}
	return list
}

// instructions reads a day's instructions, so many.
func (r *reader) instructions(count int) []api.Instr {
	text, e := r.Text(maxCodeSize)
	r.must(e)
	list, place, e := code.Decode([]byte(text), count)
	if e != api.OK {
		panic(refusal{r.begin + r.Place() - len(text) + place, e})
	}
	return list
}
