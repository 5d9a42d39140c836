package num_test

import (
	"math/big"
	"testing"

	"payoff/api"
	"payoff/num"
)

const (
	most  = 1<<63 - 1
	least = -1 << 63
)

// edges: the ends of the range, the roots and the powers of two around which products leave it, and small numbers.
var edges = []int{
	least, least + 1, least + 2, least / 2, least/2 - 1, -4294967296, -3037000500, -3037000499, -2147483648,
	-1000, -11, -10, -7, -5, -4, -3, -2, -1, 0, 1, 2, 3, 4, 5, 7, 10, 11, 1000,
	2147483648, 3037000499, 3037000500, 4294967296, most / 2, most/2 + 1, most - 2, most - 1, most,
}

type answer struct {
	v int
	f api.Fault
}

func expect(t *testing.T, what string, v int, f api.Fault, want answer) {
	t.Helper()
	if v != want.v || f != want.f {
		t.Errorf("%s: %d, fault %d, want %d, fault %d", what, v, f, want.v, want.f)
	}
}

// bounded: what a call must answer whose true answer is v.
func bounded(v *big.Int) answer {
	if !v.IsInt64() {
		return answer{0, api.Overflow}
	}
	return answer{int(v.Int64()), api.NoFault}
}

func whole(v int) *big.Int { return big.NewInt(int64(v)) }

// numbers: the edges, and n more that a fixed rule spreads over all sizes.
func numbers(n int) []int {
	list := append([]int(nil), edges...)
	state := uint64(88172645463325252)
	for range n {
		state ^= state << 13
		state ^= state >> 7
		state ^= state << 17
		list = append(list, int(state)>>(state>>3%64))
	}
	return list
}

func TestP101AgainstUnbounded(t *testing.T) {
	list := numbers(150)
	for _, a := range list {
		v, f := num.Neg(a)
		expect(t, "Neg", v, f, bounded(new(big.Int).Neg(whole(a))))
		v, f = num.Abs(a)
		expect(t, "Abs", v, f, bounded(new(big.Int).Abs(whole(a))))
		for _, b := range list {
			v, f = num.Add(a, b)
			expect(t, "Add", v, f, bounded(new(big.Int).Add(whole(a), whole(b))))
			v, f = num.Sub(a, b)
			expect(t, "Sub", v, f, bounded(new(big.Int).Sub(whole(a), whole(b))))
			v, f = num.Mul(a, b)
			expect(t, "Mul", v, f, bounded(new(big.Int).Mul(whole(a), whole(b))))
		}
	}
}

func TestP101Edges(t *testing.T) {
	for _, c := range []struct {
		what string
		call func(int, int) (int, api.Fault)
		a, b int
		want answer
	}{
		{"Add up to the top", num.Add, most - 1, 1, answer{most, 0}},
		{"Add over the top", num.Add, most, 1, answer{0, api.Overflow}},
		{"Add most twice", num.Add, most, most, answer{0, api.Overflow}},
		{"Add down to the bottom", num.Add, least + 1, -1, answer{least, 0}},
		{"Add below the bottom", num.Add, least, -1, answer{0, api.Overflow}},
		{"Add least twice, which wraps to 0", num.Add, least, least, answer{0, api.Overflow}},
		{"Add both ends", num.Add, most, least, answer{-1, 0}},
		{"Sub down to the bottom", num.Sub, -1, most, answer{least, 0}},
		{"Sub below the bottom", num.Sub, -2, most, answer{0, api.Overflow}},
		{"Sub over the top", num.Sub, 0, least, answer{0, api.Overflow}},
		{"Sub up to the top", num.Sub, -1, least, answer{most, 0}},
		{"Sub the least from itself", num.Sub, least, least, answer{0, 0}},
		{"Mul to the bottom", num.Mul, -4294967296, 2147483648, answer{least, 0}},
		{"Mul to just above the top", num.Mul, 4294967296, 2147483648, answer{0, api.Overflow}},
		{"Mul to just above the top, both below 0", num.Mul, -4294967296, -2147483648, answer{0, api.Overflow}},
		{"Mul to 2^64, which wraps to 0", num.Mul, 4294967296, 4294967296, answer{0, api.Overflow}},
		{"Mul least by -1", num.Mul, least, -1, answer{0, api.Overflow}},
		{"Mul -1 by least", num.Mul, -1, least, answer{0, api.Overflow}},
		{"Mul least by 1", num.Mul, least, 1, answer{least, 0}},
		{"Mul least by 0", num.Mul, least, 0, answer{0, 0}},
	} {
		v, f := c.call(c.a, c.b)
		expect(t, c.what, v, f, c.want)
	}
	v, f := num.Neg(least)
	expect(t, "Neg of the least", v, f, answer{0, api.Overflow})
	v, f = num.Neg(most)
	expect(t, "Neg of the greatest", v, f, answer{-most, 0})
	v, f = num.Abs(least)
	expect(t, "Abs of the least", v, f, answer{0, api.Overflow})
	v, f = num.Abs(least + 1)
	expect(t, "Abs of the one above the least", v, f, answer{most, 0})
	v, f = num.Abs(most)
	expect(t, "Abs of the greatest", v, f, answer{most, 0})
	v, f = num.Abs(0)
	expect(t, "Abs of 0", v, f, answer{0, 0})
}

func TestP102AgainstUnbounded(t *testing.T) {
	list := numbers(150)
	for _, a := range list {
		for _, b := range list {
			if b == 0 {
				continue
			}
			quotient, rest := new(big.Int).QuoRem(whole(a), whole(b), new(big.Int))
			v, f := num.Div(a, b)
			expect(t, "Div", v, f, bounded(quotient))
			v, f = num.Mod(a, b)
			expect(t, "Mod", v, f, bounded(rest))
		}
	}
}

func TestP102Edges(t *testing.T) {
	for _, a := range edges {
		v, f := num.Div(a, 0)
		expect(t, "Div by 0", v, f, answer{0, api.DivZero})
		v, f = num.Mod(a, 0)
		expect(t, "Mod by 0", v, f, answer{0, api.DivZero})
	}
	for _, c := range []struct {
		a, b     int
		div, mod answer
	}{
		{7, 2, answer{3, 0}, answer{1, 0}},
		{-7, 2, answer{-3, 0}, answer{-1, 0}},
		{7, -2, answer{-3, 0}, answer{1, 0}},
		{-7, -2, answer{3, 0}, answer{-1, 0}},
		{-6, 2, answer{-3, 0}, answer{0, 0}},
		{0, -5, answer{0, 0}, answer{0, 0}},
		{least, -1, answer{0, api.Overflow}, answer{0, 0}},
		{least, 1, answer{least, 0}, answer{0, 0}},
		{least + 1, -1, answer{most, 0}, answer{0, 0}},
		{least, least, answer{1, 0}, answer{0, 0}},
		{most, least, answer{0, 0}, answer{most, 0}},
		{least, most, answer{-1, 0}, answer{-1, 0}},
	} {
		v, f := num.Div(c.a, c.b)
		expect(t, "Div", v, f, c.div)
		v, f = num.Mod(c.a, c.b)
		expect(t, "Mod", v, f, c.mod)
	}
}

func TestP104Sum(t *testing.T) {
	for _, c := range []struct {
		what string
		list []int
		want answer
	}{
		{"nil", nil, answer{0, 0}},
		{"empty", []int{}, answer{0, 0}},
		{"one", []int{least}, answer{least, 0}},
		{"some", []int{1, -2, 30, 4}, answer{33, 0}},
		{"over the top and back", []int{most, 1, -5}, answer{0, api.Overflow}},
		{"below the bottom and back", []int{least, -1, 5}, answer{0, api.Overflow}},
		{"out by the last alone", []int{most - 1, 1, 1}, answer{0, api.Overflow}},
		{"at the top and back", []int{most - 1, 1, -1, 1}, answer{most, 0}},
		{"from end to end and out", []int{most, least, least}, answer{0, api.Overflow}},
		{"from end to end within", []int{most, least, 1, most, least}, answer{-1, 0}},
		{"out and back to the same", []int{least, least, most, most}, answer{0, api.Overflow}},
	} {
		v, f := num.Sum(c.list)
		expect(t, "Sum: "+c.what, v, f, c.want)
	}
}

func TestP107SumLeavesItsList(t *testing.T) {
	room := []int{5, 6, 7, 8, 9}
	for range 2 {
		v, f := num.Sum(room[:3])
		expect(t, "Sum", v, f, answer{18, 0})
	}
	for i, v := range room {
		if v != 5+i {
			t.Errorf("the list or its spare room has changed: %v", room)
		}
	}
	room[0] = 50
	v, f := num.Sum(room[:3])
	expect(t, "Sum of the list as it is now", v, f, answer{63, 0})
}
