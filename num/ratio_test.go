package num_test

import (
	"math/big"
	"testing"

	"payoff/api"
	"payoff/num"
)

// rounded: a times b over c by the words of the document, from the whole number below the fraction on.
func rounded(a, b, c, mode int) *big.Int {
	top, divisor := new(big.Int).Mul(whole(a), whole(b)), whole(c)
	if c < 0 {
		top.Neg(top)
		divisor.Neg(divisor)
	}
	below, rest := new(big.Int).DivMod(top, divisor, new(big.Int))
	if rest.Sign() == 0 {
		return below
	}
	above := new(big.Int).Add(below, big.NewInt(1))
	nearest := new(big.Int).Lsh(rest, 1).Cmp(divisor)
	positive := top.Sign() > 0
	up := !positive
	switch mode {
	case api.Floor:
		up = false
	case api.Ceil:
		up = true
	case api.HalfUp:
		up = nearest > 0 || nearest == 0 && positive
	case api.HalfEven:
		up = nearest > 0 || nearest == 0 && below.Bit(0) == 1
	}
	if up {
		return above
	}
	return below
}

func TestP103AgainstUnbounded(t *testing.T) {
	list := numbers(20)
	for _, a := range list {
		for _, b := range list {
			for _, c := range list {
				for mode := -1; mode <= 5; mode++ {
					v, f := num.Ratio(a, b, c, mode)
					want := answer{0, api.DivZero}
					if c != 0 {
						want = bounded(rounded(a, b, c, mode))
					}
					if v != want.v || f != want.f {
						t.Fatalf("Ratio(%d, %d, %d, %d): %d, fault %d, want %d, fault %d", a, b, c, mode, v, f, want.v, want.f)
					}
				}
			}
		}
	}
}

func TestP103Small(t *testing.T) {
	for a := -60; a <= 60; a++ {
		for c := -12; c <= 12; c++ {
			if c == 0 {
				continue
			}
			for mode := 0; mode <= 4; mode++ {
				v, f := num.Ratio(a, 1, c, mode)
				expect(t, "Ratio", v, f, bounded(rounded(a, 1, c, mode)))
			}
		}
	}
}

func TestP103Roundings(t *testing.T) {
	for _, c := range []struct {
		a, b, c int
		want    [5]int
	}{
		{1, 1, 2, [5]int{0, 0, 1, 1, 0}},
		{-1, 1, 2, [5]int{0, -1, 0, -1, 0}},
		{3, 1, 2, [5]int{1, 1, 2, 2, 2}},
		{-3, 1, 2, [5]int{-1, -2, -1, -2, -2}},
		{1, -3, 2, [5]int{-1, -2, -1, -2, -2}},
		{3, 1, -2, [5]int{-1, -2, -1, -2, -2}},
		{-3, -1, -2, [5]int{-1, -2, -1, -2, -2}},
		{4, 1, 3, [5]int{1, 1, 2, 1, 1}},
		{5, 1, 3, [5]int{1, 1, 2, 2, 2}},
		{-4, 1, 3, [5]int{-1, -2, -1, -1, -1}},
		{-5, 1, 3, [5]int{-1, -2, -1, -2, -2}},
		{6, 1, 3, [5]int{2, 2, 2, 2, 2}},
		{0, least, -1, [5]int{}},
		{least / 2, 1, least, [5]int{0, 0, 1, 1, 0}},
		{least/2 - 1, 1, least, [5]int{0, 0, 1, 1, 1}},
		{least/2 + 1, 1, least, [5]int{0, 0, 1, 0, 0}},
		{least, least, least, [5]int{least, least, least, least, least}},
	} {
		for mode, want := range c.want {
			v, f := num.Ratio(c.a, c.b, c.c, mode)
			if v != want || f != api.NoFault {
				t.Errorf("Ratio(%d, %d, %d, %d): %d, fault %d, want %d", c.a, c.b, c.c, mode, v, f, want)
			}
		}
	}
}

func TestP103OtherModesAreDown(t *testing.T) {
	for _, mode := range []int{-1, 5, 9, 1 << 32, 1<<32 + api.Ceil, most, least} {
		v, f := num.Ratio(7, 1, 2, mode)
		expect(t, "Ratio of a mode that is none", v, f, answer{3, 0})
		v, f = num.Ratio(-7, 1, 2, mode)
		expect(t, "Ratio of a mode that is none", v, f, answer{-3, 0})
		v, f = num.Ratio(7, 1, 0, mode)
		expect(t, "Ratio over 0", v, f, answer{0, api.DivZero})
	}
}

// Where the rounding alone decides whether the answer is within the range.
func TestP103RoundedOutOfTheRange(t *testing.T) {
	out := answer{0, api.Overflow}
	top, bottom, above := answer{most, 0}, answer{least, 0}, answer{least + 1, 0}
	for _, c := range []struct {
		what    string
		a, b, c int
		want    [5]answer
	}{
		{"2^63 - 1/2", 4294967295, 4294967297, 2, [5]answer{top, top, out, out, out}},
		{"-2^63 + 1/2", 4294967295, 4294967297, -2, [5]answer{above, bottom, above, bottom, bottom}},
		{"2^63 + 1/2", 274177, 67280421310721, 2, [5]answer{out, out, out, out, out}},
		{"-2^63 - 1/2", -274177, 67280421310721, 2, [5]answer{bottom, out, bottom, out, bottom}},
		{"2^64 - 1/2, which wraps to 0", 253921, 145295143558111, 2, [5]answer{out, out, out, out, out}},
		{"-2^64 + 1/2, which wraps to 0", 253921, 145295143558111, -2, [5]answer{out, out, out, out, out}},
		{"2^64, which wraps to 0", least, -2, 1, [5]answer{out, out, out, out, out}},
		{"the least over -1", least, 1, -1, [5]answer{out, out, out, out, out}},
		{"the greatest twice", most, 2, 1, [5]answer{out, out, out, out, out}},
		{"the greatest by itself", most, most, 1, [5]answer{out, out, out, out, out}},
		{"the least by itself", least, least, 1, [5]answer{out, out, out, out, out}},
		{"the top by a product beyond it", most, 3, 3, [5]answer{top, top, top, top, top}},
		{"the bottom by a product beyond it", least, 3, 3, [5]answer{bottom, bottom, bottom, bottom, bottom}},
	} {
		for mode, want := range c.want {
			v, f := num.Ratio(c.a, c.b, c.c, mode)
			expect(t, c.what, v, f, want)
		}
	}
}
