package num_test

import (
	"fmt"
	"math/big"
	"regexp"
	"strings"
	"testing"

	"payoff/api"
	"payoff/num"
)

// written: v over 10^places by the words of the document.
func written(v, places int) string {
	sign := ""
	if v < 0 {
		sign = "-"
	}
	bare := new(big.Int).Abs(whole(v))
	if places == 0 {
		return sign + bare.String()
	}
	part, rest := new(big.Int).DivMod(bare, new(big.Int).Exp(big.NewInt(10), big.NewInt(int64(places)), nil), new(big.Int))
	return fmt.Sprintf("%s%s.%0*d", sign, part, places, rest)
}

// read: the number whose text s is, worked out by a pattern and without a bound.
func read(s string, places int) (int, bool) {
	pattern := `^-?(0|[1-9][0-9]*)$`
	if places > 0 {
		pattern = fmt.Sprintf(`^-?(0|[1-9][0-9]*)\.[0-9]{%d}$`, places)
	}
	if !regexp.MustCompile(pattern).MatchString(s) {
		return 0, false
	}
	v, _ := new(big.Int).SetString(strings.Replace(s, ".", "", 1), 10)
	if !v.IsInt64() || v.Sign() == 0 && s[0] == '-' {
		return 0, false
	}
	return int(v.Int64()), true
}

func TestP105AndP106ThereAndBack(t *testing.T) {
	list := numbers(200)
	for v := -1100; v <= 1100; v++ {
		list = append(list, v)
	}
	for _, v := range list {
		for places := 0; places <= 18; places++ {
			want := written(v, places)
			s, e := num.Text(v, places)
			if s != want || e != api.OK {
				t.Errorf("P105: Text(%d, %d): %q, %v, want %q", v, places, s, e, want)
			}
			back, e := num.Parse(want, places)
			if back != v || e != api.OK {
				t.Errorf("P106: Parse(%q, %d): %d, %v, want %d", want, places, back, e, v)
			}
		}
	}
}

func TestP105Edges(t *testing.T) {
	for _, c := range []struct {
		v, places int
		want      string
	}{
		{0, 0, "0"},
		{0, 1, "0.0"},
		{0, 18, "0.000000000000000000"},
		{9, 1, "0.9"},
		{10, 1, "1.0"},
		{-1, 18, "-0.000000000000000001"},
		{-100, 2, "-1.00"},
		{999999999999999999, 18, "0.999999999999999999"},
		{1000000000000000000, 18, "1.000000000000000000"},
		{most, 0, "9223372036854775807"},
		{least, 0, "-9223372036854775808"},
		{most, 18, "9.223372036854775807"},
		{least, 1, "-922337203685477580.8"},
	} {
		s, e := num.Text(c.v, c.places)
		if s != c.want || e != api.OK {
			t.Errorf("Text(%d, %d): %q, %v, want %q", c.v, c.places, s, e, c.want)
		}
	}
}

func TestP105AndP106WrongPlaces(t *testing.T) {
	for _, places := range []int{-1, -18, 19, 20, 1 << 32, most, least} {
		s, e := num.Text(5, places)
		if s != "" || e != api.ErrArg {
			t.Errorf("P105: Text(5, %d): %q, %v", places, s, e)
		}
		for _, s := range []string{"5", "", "x", "0.0000000000000000005"} {
			v, e := num.Parse(s, places)
			if v != 0 || e != api.ErrArg {
				t.Errorf("P106: Parse(%q, %d): %d, %v", s, places, v, e)
			}
		}
	}
}

func TestP106Refused(t *testing.T) {
	for _, c := range []struct {
		what   string
		places int
		texts  []string
	}{
		{"nothing", 0, []string{"", "-"}},
		{"nothing, with places", 2, []string{"", "-", ".", "-."}},
		{"a +", 0, []string{"+1", "+0", "+-1", "-+1"}},
		{"a +, with places", 2, []string{"+1.50", "-+1.50"}},
		{"a 0 ahead", 0, []string{"00", "01", "-01", "-00"}},
		{"a 0 ahead, with places", 2, []string{"01.50", "00.50", "-01.50", "-00.50"}},
		{"-0", 0, []string{"-0"}},
		{"-0, with places", 2, []string{"-0.00"}},
		{"-0, with the most places", 18, []string{"-0.000000000000000000"}},
		{"a blank", 0, []string{" 1", "1 ", "- 1", "1 1", "\t1", "1\n", " "}},
		{"a blank, with places", 2, []string{" 1.50", "1.50 ", "1 .50", "1. 50", "1.5 "}},
		{"a missing digit", 2, []string{"1.5", "1.", "1", "150", ".50", "-.50", "0.5"}},
		{"a further digit", 2, []string{"1.500", "1.505"}},
		{"a full stop without places", 0, []string{"1.", "1.0", ".1", "."}},
		{"no full stop, or another", 2, []string{"1,50", "1x50", "1-50", "1..50", "1.5.0", "15.0", "1500"}},
		{"two signs", 0, []string{"--1", "1-", "-1-"}},
		{"other digits", 0, []string{"0x1", "1e3", "1_000", "a", "\u0661", "\uff11", "\x00", "1\x00", "\xff"}},
		{"above the range", 0, []string{"9223372036854775808", "9223372036854775810", "10000000000000000000", "18446744073709551616", "18446744073709551617"}},
		{"below the range", 0, []string{"-9223372036854775809", "-10000000000000000000", "-18446744073709551616"}},
		{"outside the range, with places", 18, []string{"9.223372036854775808", "-9.223372036854775809", "10.000000000000000000"}},
		{"far outside", 0, []string{strings.Repeat("9", 400), strings.Repeat("0", 400), strings.Repeat("0", 400) + "1"}},
		{"far outside, with places", 1, []string{strings.Repeat("9", 400) + ".0", "0." + strings.Repeat("0", 400)}},
	} {
		for _, s := range c.texts {
			v, e := num.Parse(s, c.places)
			if v != 0 || e != api.ErrDigits {
				t.Errorf("%s: Parse(%q, %d): %d, %v", c.what, s, c.places, v, e)
			}
		}
	}
}

// Each text that lies one byte away from a right one is judged as the pattern judges it.
func TestP106Neighbours(t *testing.T) {
	const marks = "019-+. ,_x\x00\xff"
	for _, v := range []int{0, 5, -5, 10, -10, 150, 905, most, least, most - 7} {
		for _, places := range []int{0, 1, 2, 3, 17, 18} {
			s := written(v, places)
			for i := 0; i <= len(s); i++ {
				if i < len(s) {
					judge(t, s[:i]+s[i+1:], places)
				}
				for j := range len(marks) {
					judge(t, s[:i]+marks[j:j+1]+s[i:], places)
					if i < len(s) {
						judge(t, s[:i]+marks[j:j+1]+s[i+1:], places)
					}
				}
			}
		}
	}
}

func judge(t *testing.T, s string, places int) {
	t.Helper()
	want, ok := read(s, places)
	v, e := num.Parse(s, places)
	if v != want || ok != (e == api.OK) || !ok && e != api.ErrDigits {
		t.Errorf("Parse(%q, %d): %d, %v, want %d, %v", s, places, v, e, want, ok)
	}
}
