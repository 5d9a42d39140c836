package num

import (
	"strconv"
	"strings"

	"payoff/api"
)

const (
	mostPlaces = 18
	// longest is the length of the longest text: 19 digits, a sign, a full stop.
	longest = 21
)

// Text writes v with that many decimals.
func Text(v int, places int) (string, api.Errno) {
	if !placesFit(places) {
		return "", api.ErrArg
	}
	return decimal(v, places), api.OK
}

// Parse reads what Text writes.
func Parse(s string, places int) (int, api.Errno) {
	if !placesFit(places) {
		return 0, api.ErrArg
	}
	// Longer ones are refused here, so that they are not copied.
	if len(s) > longest {
		return 0, api.ErrDigits
	}
	v, err := strconv.Atoi(withoutStop(s, places))
	// What else than Text's own form has got through so far, writing it again brings to light.
	if err != nil || decimal(v, places) != s {
		return 0, api.ErrDigits
	}
	return v, api.OK
}

// placesFit tells whether there are texts with that many decimals.
func placesFit(places int) bool {
	return places >= 0 && places <= mostPlaces
}

// decimal writes v with places decimals; places fit.
func decimal(v int, places int) string {
	digits := strconv.FormatUint(sizeOf(v), 10)
	if short := places + 1 - len(digits); short > 0 {
		digits = strings.Repeat("0", short) + digits
	}
	if places > 0 {
		stop := len(digits) - places
		digits = digits[:stop] + "." + digits[stop:]
	}
	if v < 0 {
		return "-" + digits
	}
	return digits
}

// withoutStop leaves out the byte ahead of the decimals, if there is one.
func withoutStop(s string, places int) string {
	stop := len(s) - places - 1
	if places == 0 || stop < 0 {
		return s
	}
	return s[:stop] + s[stop+1:]
}
