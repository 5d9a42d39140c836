package cal

import (
	"strconv"

	"payoff/api"
)

// Where a date's text has its hyphens, and how long it is.
const (
	firstHyphen  = 4
	secondHyphen = 7
	textLength   = 10
)

// Text writes a date as YYYY-MM-DD.
func Text(d api.Date) (string, api.Errno) {
	if !exists(d) {
		return "", api.ErrDate
	}
	// A year that exists has four digits of its own.
	return strconv.Itoa(d.Y) + "-" + twoDigits(d.M) + "-" + twoDigits(d.D), api.OK
}

// Parse reads a date as YYYY-MM-DD.
func Parse(s string) (api.Date, api.Errno) {
	if !shapedAsDate(s) {
		return api.Date{}, api.ErrDate
	}
	d := api.Date{
		Y: digits(s[:firstHyphen]),
		M: digits(s[firstHyphen+1 : secondHyphen]),
		D: digits(s[secondHyphen+1:]),
	}
	if !exists(d) {
		return api.Date{}, api.ErrDate
	}
	return d, api.OK
}

func twoDigits(n int) string {
	return string([]byte{byte('0' + n/10), byte('0' + n%10)})
}

func shapedAsDate(s string) bool {
	if len(s) != textLength {
		return false
	}
	for i := range len(s) {
		switch i {
		case firstHyphen, secondHyphen:
			if s[i] != '-' {
				return false
			}
		default:
			if s[i] < '0' || s[i] > '9' {
				return false
			}
		}
	}
	return true
}

func digits(s string) int {
	n := 0
	for i := range len(s) {
		n = 10*n + int(s[i]-'0')
	}
	return n
}
