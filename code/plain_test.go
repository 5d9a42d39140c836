package code_test

import (
	"strconv"
	"strings"

	"payoff/api"
)

// A plain reading of the chapter, against which the calls are held.

// chapter is the chapter's table: Op, name, the operands' bounds ("-": none, "+" between two), takes, puts.
const chapter = `
0 end - 0 0
1 const 16383 0 1
2 bool 1 0 1
3 obs 63+3660 0 1
4 load 32767 0 1
5 store 32767 1 0
6 keep 16383 1 1
7 get 16383 0 1
8 drop - 1 0
9 add - 2 1
10 sub - 2 1
11 mul - 2 1
12 neg - 1 1
13 div - 2 1
14 mod - 2 1
15 abs - 1 1
16 min - 2 1
17 max - 2 1
18 ratio 4 3 1
19 lt - 2 1
20 le - 2 1
21 gt - 2 1
22 ge - 2 1
23 eq - 2 1
24 ne - 2 1
25 not - 1 1
26 jump 262143 0 0
27 zero 262143 1 0
28 flow 4095 1 0
`

// plainRow is a row of the chapter's table.
type plainRow struct {
	op          int
	name        string
	bounds      []int
	takes, puts int
}

func number(text string) int {
	n, err := strconv.Atoi(text)
	if err != nil {
		panic(err)
	}
	return n
}

// plainTable reads the chapter's table.
func plainTable() []plainRow {
	var table []plainRow
	for line := range strings.SplitSeq(strings.TrimSpace(chapter), "\n") {
		f := strings.Fields(line)
		r := plainRow{op: number(f[0]), name: f[1], takes: number(f[3]), puts: number(f[4])}
		if f[2] != "-" {
			for bound := range strings.SplitSeq(f[2], "+") {
				r.bounds = append(r.bounds, number(bound))
			}
		}
		table = append(table, r)
	}
	return table
}

// plainly is the table, read once.
var plainly = plainTable()

// plainRowOf: the row of an Op, if there is one.
func plainRowOf(op int) (plainRow, bool) {
	for _, r := range plainly {
		if r.op == op {
			return r, true
		}
	}
	return plainRow{}, false
}

func plainValid(i api.Instr) api.Errno {
	r, ok := plainRowOf(i.Op)
	if !ok {
		return api.ErrOp
	}
	for n, x := range []int{i.A, i.B} {
		has := n < len(r.bounds)
		if has && (x < 0 || x > r.bounds[n]) || !has && x != 0 {
			return api.ErrOp
		}
	}
	return api.OK
}

// plainVarint: a number of 0 or more, in groups of seven bits.
func plainVarint(x int) []byte {
	if x < 128 {
		return []byte{byte(x)}
	}
	return append([]byte{byte(128 + x%128)}, plainVarint(x/128)...)
}

func plainEncode(list []api.Instr) ([]byte, api.Errno) {
	if len(list) > 262144 {
		return nil, api.ErrLong
	}
	var b []byte
	for _, i := range list {
		if plainValid(i) != api.OK {
			return nil, api.ErrOp
		}
		r, _ := plainRowOf(i.Op)
		b = append(b, byte(i.Op))
		for n := range r.bounds {
			b = append(b, plainVarint([]int{i.A, i.B}[n])...)
		}
	}
	return b, api.OK
}

// plainUint: the varint that b has at a place, and the place behind it.
func plainUint(b []byte, at, bound int) (int, int, api.Errno) {
	end := at
	for end < len(b) && end < at+10 && b[end] >= 128 {
		end++
	}
	if end == at+10 {
		return 0, 0, api.ErrVarint
	}
	if end == len(b) {
		return 0, 0, api.ErrShort
	}
	if end > at && b[end] == 0 || end > at+3 {
		return 0, 0, api.ErrVarint // above each bound: four bytes have room for 2^28 - 1
	}
	x := 0
	for k := end; k >= at; k-- {
		x = 128*x + int(b[k])%128
	}
	if x > bound {
		return 0, 0, api.ErrVarint
	}
	return x, end + 1, api.OK
}

func plainDecode(b []byte, count int) ([]api.Instr, int, api.Errno) {
	if count < 0 {
		return nil, 0, api.ErrArg
	}
	if count > 262144 {
		return nil, 0, api.ErrLong
	}
	var list []api.Instr
	at := 0
	for len(list) < count {
		if at == len(b) {
			return nil, len(b), api.ErrShort
		}
		r, ok := plainRowOf(int(b[at]))
		if !ok {
			return nil, at, api.ErrOp
		}
		at++
		operands := []int{0, 0}
		for n, bound := range r.bounds {
			x, next, e := plainUint(b, at, bound)
			if e == api.ErrShort {
				return nil, len(b), e
			}
			if e != api.OK {
				return nil, at, e
			}
			operands[n], at = x, next
		}
		list = append(list, api.Instr{Op: r.op, A: operands[0], B: operands[1]})
	}
	if at < len(b) {
		return nil, at, api.ErrExtra
	}
	return list, 0, api.OK
}
