// Package num: checked arithmetic on 64-bit numbers, and their decimal texts (layer 1).
package num

import (
	"math/bits"

	"payoff/api"
)

// least is the number whose size no positive number has.
const least = -1 << 63

// Add tells a + b.
func Add(a int, b int) (int, api.Fault) {
	sum := a + b
	// A sum that has wrapped round has a sign that neither a nor b has.
	if (a^sum)&(b^sum) < 0 {
		return 0, api.Overflow
	}
	return sum, api.NoFault
}

// Sub tells a - b.
func Sub(a int, b int) (int, api.Fault) {
	rest := a - b
	// Only signs that differ can lead out of the range, and then a's sign is lost.
	if (a^b)&(a^rest) < 0 {
		return 0, api.Overflow
	}
	return rest, api.NoFault
}

// Mul tells a times b.
func Mul(a int, b int) (int, api.Fault) {
	high, low := bits.Mul64(sizeOf(a), sizeOf(b))
	if high != 0 {
		return 0, api.Overflow
	}
	return signed(low, (a < 0) != (b < 0))
}

// Neg tells -a.
func Neg(a int) (int, api.Fault) {
	return Sub(0, a)
}

// Div tells a over b, rounded towards zero.
func Div(a int, b int) (int, api.Fault) {
	if b == 0 {
		return 0, api.DivZero
	}
	if a == least && b == -1 {
		return 0, api.Overflow
	}
	return a / b, api.NoFault
}

// Mod tells what Div leaves: a - b times Div(a, b).
func Mod(a int, b int) (int, api.Fault) {
	if b == 0 {
		return 0, api.DivZero
	}
	// The language itself says that least % -1 is 0.
	return a % b, api.NoFault
}

// Abs tells a without its sign.
func Abs(a int) (int, api.Fault) {
	if a < 0 {
		return Neg(a)
	}
	return a, api.NoFault
}

// Ratio tells a times b over c, the product unbounded, rounded by mode (api.Down ..).
func Ratio(a int, b int, c int, mode int) (int, api.Fault) {
	if c == 0 {
		return 0, api.DivZero
	}
	high, low := bits.Mul64(sizeOf(a), sizeOf(b))
	divisor := sizeOf(c)
	// Div64 has no answer if the whole part needs more than 64 bits.
	if high >= divisor {
		return 0, api.Overflow
	}
	whole, rest := bits.Div64(high, low, divisor)
	// Looked at ahead of rounding, so that the 1 below cannot wrap round.
	if whole > 1<<63 {
		return 0, api.Overflow
	}
	negative := (a < 0) != (b < 0) != (c < 0)
	if goesAway(mode, negative, whole, rest, divisor) {
		whole++
	}
	return signed(whole, negative)
}

// Sum tells the sum of the list, from its first number on.
func Sum(list []int) (int, api.Fault) {
	sum := 0
	for _, v := range list {
		next, fault := Add(sum, v)
		if fault != api.NoFault {
			return 0, fault
		}
		sum = next
	}
	return sum, api.NoFault
}

// goesAway tells whether the fraction of that sign and of the size whole and rest over divisor is rounded away from zero.
func goesAway(mode int, negative bool, whole, rest, divisor uint64) bool {
	if rest == 0 {
		return false
	}
	// Twice the rest might not fit: it is held against what lacks to the divisor.
	lack := divisor - rest
	switch mode {
	case api.Floor:
		return negative
	case api.Ceil:
		return !negative
	case api.HalfEven:
		if rest == lack {
			return whole%2 == 1
		}
		fallthrough
	case api.HalfUp:
		return rest >= lack
	}
	return false
}

// sizeOf tells a without its sign; 64 bits without a sign hold that of each number.
func sizeOf(a int) uint64 {
	if a < 0 {
		return -uint64(a)
	}
	return uint64(a)
}

// signed tells the number of that size and sign.
func signed(size uint64, negative bool) (int, api.Fault) {
	if negative {
		if size > 1<<63 {
			return 0, api.Overflow
		}
		return int(-size), api.NoFault
	}
	if size >= 1<<63 {
		return 0, api.Overflow
	}
	return int(size), api.NoFault
}
