package num_test

import (
	"testing"

	"payoff/api"
	"payoff/num"
)

// The six examples of doc/01-num.md, as they stand there.

func TestExample1(t *testing.T) {
	v, f := num.Add(9223372036854775807, 1)
	expect(t, "Add", v, f, answer{0, api.Overflow})
	v, f = num.Add(9223372036854775807, -1)
	expect(t, "Add", v, f, answer{9223372036854775806, 0})
	v, f = num.Sub(0, -9223372036854775808)
	expect(t, "Sub", v, f, answer{0, api.Overflow})
	v, f = num.Mul(3037000500, 3037000500)
	expect(t, "Mul", v, f, answer{0, api.Overflow})
	v, f = num.Mul(-4294967296, 2147483648)
	expect(t, "Mul", v, f, answer{-9223372036854775808, 0})
}

func TestExample2(t *testing.T) {
	v, f := num.Div(-7, 2)
	expect(t, "Div", v, f, answer{-3, 0})
	v, f = num.Mod(-7, 2)
	expect(t, "Mod", v, f, answer{-1, 0})
	v, f = num.Mod(7, -2)
	expect(t, "Mod", v, f, answer{1, 0})
	v, f = num.Div(5, 0)
	expect(t, "Div", v, f, answer{0, api.DivZero})
	v, f = num.Div(-9223372036854775808, -1)
	expect(t, "Div", v, f, answer{0, api.Overflow})
	v, f = num.Mod(-9223372036854775808, -1)
	expect(t, "Mod", v, f, answer{0, 0})
}

func TestExample3(t *testing.T) {
	for _, c := range []struct {
		a    int
		want [5]int
	}{
		{7, [5]int{3, 3, 4, 4, 4}},
		{-7, [5]int{-3, -4, -3, -4, -4}},
		{5, [5]int{2, 2, 3, 3, 2}},
		{-5, [5]int{-2, -3, -2, -3, -2}},
	} {
		for mode, want := range c.want {
			v, f := num.Ratio(c.a, 1, 2, mode)
			expect(t, "Ratio", v, f, answer{want, 0})
		}
	}
	v, f := num.Ratio(5, 1, -2, api.Floor)
	expect(t, "Ratio", v, f, answer{-3, 0})
	v, f = num.Ratio(1, 1, 3, api.HalfUp)
	expect(t, "Ratio", v, f, answer{0, 0})
	v, f = num.Ratio(9223372036854775807, 9223372036854775807, 9223372036854775807, 0)
	expect(t, "Ratio", v, f, answer{9223372036854775807, 0})
	v, f = num.Ratio(1, 1, 0, 9)
	expect(t, "Ratio", v, f, answer{0, api.DivZero})
	v, f = num.Ratio(7, 1, 2, 9)
	expect(t, "Ratio", v, f, answer{3, 0})
}

func TestExample4(t *testing.T) {
	v, f := num.Sum([]int{9223372036854775807, 1, -5})
	expect(t, "Sum", v, f, answer{0, api.Overflow})
	v, f = num.Sum([]int{9223372036854775807, -5, 1})
	expect(t, "Sum", v, f, answer{9223372036854775803, 0})
}

func TestExample5(t *testing.T) {
	for _, c := range []struct {
		v, places int
		s         string
		e         api.Errno
	}{
		{-5, 2, "-0.05", api.OK},
		{0, 0, "0", api.OK},
		{0, 3, "0.000", api.OK},
		{-9223372036854775808, 18, "-9.223372036854775808", api.OK},
		{1, 19, "", api.ErrArg},
	} {
		s, e := num.Text(c.v, c.places)
		if s != c.s || e != c.e {
			t.Errorf("Text(%d, %d): %q, %v, want %q, %v", c.v, c.places, s, e, c.s, c.e)
		}
	}
}

func TestExample6(t *testing.T) {
	for _, c := range []struct {
		s         string
		places, v int
		e         api.Errno
	}{
		{"1.50", 2, 150, api.OK},
		{"1.5", 2, 0, api.ErrDigits},
		{"01.50", 2, 0, api.ErrDigits},
		{"+1.50", 2, 0, api.ErrDigits},
		{"-0.00", 2, 0, api.ErrDigits},
		{"1.", 0, 0, api.ErrDigits},
		{"", 0, 0, api.ErrDigits},
		{"9223372036854775808", 0, 0, api.ErrDigits},
	} {
		v, e := num.Parse(c.s, c.places)
		if v != c.v || e != c.e {
			t.Errorf("Parse(%q, %d): %d, %v, want %d, %v", c.s, c.places, v, e, c.v, c.e)
		}
	}
}
