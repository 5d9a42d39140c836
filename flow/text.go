package flow

import (
	"math"
	"strconv"

	"payoff/api"
)

// Print writes flows, a line each.
func Print(flows []api.Flow) (string, api.Errno) {
	// A flow that is not right is told ahead of a text that is too long, wherever it stands.
	for _, f := range flows {
		if e := Valid(f); e != api.OK {
			return "", e
		}
	}
	var text []byte
	for _, f := range flows {
		text = appendLine(text, f)
		if len(text) > api.MaxTable {
			return "", api.ErrLong
		}
	}
	return string(text), api.OK
}

// Parse reads what Print writes; with an error the place of the first byte that cannot stand there.
func Parse(text string) ([]api.Flow, int, api.Errno) {
	if len(text) > api.MaxTable {
		return nil, 0, api.ErrLong
	}
	var flows []api.Flow
	r := reader{text: text}
	for r.at < len(text) {
		f, ok := r.line()
		if !ok {
			return nil, r.at, api.ErrFlow
		}
		flows = append(flows, f)
	}
	return flows, 0, api.OK
}

func appendLine(text []byte, f api.Flow) []byte {
	text = strconv.AppendInt(text, int64(f.Day), 10)
	text = append(text, ' ')
	text = append(text, f.Cur...)
	text = append(text, ' ')
	text = strconv.AppendInt(text, int64(f.Amount), 10)
	return append(text, '\n')
}

// reader goes through a text. What it has passed is always a beginning of some text that Print writes, so where it stands still is the place of the error.
type reader struct {
	text string
	at   int
}

func (r *reader) line() (api.Flow, bool) {
	day, ok := r.digits(api.MaxDays)
	if !ok || !r.pass(' ') {
		return api.Flow{}, false
	}
	cur, ok := r.currency()
	if !ok || !r.pass(' ') {
		return api.Flow{}, false
	}
	amount, ok := r.amount()
	if !ok || !r.pass('\n') {
		return api.Flow{}, false
	}
	return api.Flow{Day: int(day), Cur: cur, Amount: amount}, true
}

func (r *reader) currency() (string, bool) {
	start := r.at
	for r.at < start+curLength {
		if r.at == len(r.text) || !isCapital(r.text[r.at]) {
			return "", false
		}
		r.at++
	}
	return r.text[start:r.at], true
}

func (r *reader) amount() (int, bool) {
	if !r.pass('-') {
		size, ok := r.digits(math.MaxInt64)
		return int(size), ok
	}
	// The amount 0 has no sign.
	if r.sees('0') {
		return 0, false
	}
	size, ok := r.digits(-math.MinInt64)
	return int(-size), ok
}

// digits reads a number from 0 to limit, and stands still at the digit that would lead beyond it.
func (r *reader) digits(limit uint64) (uint64, bool) {
	// Behind a 0 no digit goes on.
	if r.pass('0') {
		return 0, true
	}
	start, n := r.at, uint64(0)
	for ; r.at < len(r.text); r.at++ {
		c := r.text[r.at]
		if c < '0' || c > '9' {
			break
		}
		digit := uint64(c - '0')
		// Held against the limit ahead of the step, so that the number cannot wrap round.
		if n > (limit-digit)/10 {
			return 0, false
		}
		n = 10*n + digit
	}
	return n, r.at > start
}

func (r *reader) sees(c byte) bool {
	return r.at < len(r.text) && r.text[r.at] == c
}

// pass goes on behind c, if it stands there.
func (r *reader) pass(c byte) bool {
	if !r.sees(c) {
		return false
	}
	r.at++
	return true
}
