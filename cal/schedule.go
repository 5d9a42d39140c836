package cal

import (
	"slices"

	"payoff/api"
)

// The greatest number of units that a valid tenor has.
const maxUnits = 999

// Add tells the date n tenors later (n may be below 0); a month's end that is not there becomes the month's last day.
func Add(d api.Date, t api.Tenor, n int) (api.Date, api.Errno) {
	if !isTenor(t) {
		return api.Date{}, api.ErrArg
	}
	if !exists(d) {
		return api.Date{}, api.ErrDate
	}
	// A tenor is a day at least, so more of them than the calendar has days lead
	// out of it; what is left has products that fit an int.
	if n > dayCount || n < -dayCount {
		return api.Date{}, api.ErrRange
	}
	switch t.Unit {
	case api.UnitDay:
		return Date(number(d) + t.N*n)
	case api.UnitWeek:
		return Date(number(d) + 7*t.N*n)
	case api.UnitMonth:
		return addMonths(d, t.N*n)
	default:
		return addMonths(d, 12*t.N*n)
	}
}

// Schedule tells the days from, from + t, from + 2t, .. up to to, adjusted, each once, rising.
func Schedule(from api.Date, to api.Date, t api.Tenor, conv int, holidays []api.Date) ([]int, api.Errno) {
	if !isTenor(t) || !isConvention(conv) {
		return nil, api.ErrArg
	}
	first, e := Day(from)
	if e != api.OK {
		return nil, e
	}
	last, e := Day(to)
	if e != api.OK {
		return nil, e
	}
	closed, e := numbers(holidays)
	if e != api.OK {
		return nil, e
	}
	if first > last {
		return nil, api.ErrRange
	}
	return adjustAll(regularDays(from, last, t), conv, closed)
}

func isTenor(t api.Tenor) bool {
	return t.N >= 1 && t.N <= maxUnits && t.Unit >= api.UnitDay && t.Unit <= api.UnitYear
}

// addMonths moves a date that exists by so many months.
func addMonths(d api.Date, months int) (api.Date, api.Errno) {
	all := 12*(d.Y-api.FirstYear) + d.M - 1 + months
	if all < 0 || all >= 12*(api.LastYear-api.FirstYear+1) {
		return api.Date{}, api.ErrRange
	}
	y, m := api.FirstYear+all/12, all%12+1
	return api.Date{Y: y, M: m, D: min(d.D, monthLength(y, m))}, api.OK
}

func numbers(dates []api.Date) ([]int, api.Errno) {
	days := make([]int, len(dates))
	for i, d := range dates {
		day, e := Day(d)
		if e != api.OK {
			return nil, e
		}
		days[i] = day
	}
	return days, api.OK
}

// regularDays tells the numbers of from, from + t, from + 2t, .. that exist and are not behind last.
func regularDays(from api.Date, last int, t api.Tenor) []int {
	var days []int
	for i := 0; ; i++ {
		// Counted from the first date each time: a month's end that was cut short once is whole again later.
		d, e := Add(from, t, i)
		if e != api.OK || number(d) > last {
			return days
		}
		days = append(days, number(d))
	}
}

// adjustAll adjusts rising days; that keeps their order, so equal ones come to stand side by side.
func adjustAll(days []int, conv int, holidays []int) ([]int, api.Errno) {
	calendar := openDays(0, dayCount, holidays)
	for i := range days {
		day, e := calendar.adjust(days[i], conv)
		if e != api.OK {
			return nil, e
		}
		days[i] = day
	}
	return slices.Compact(days), api.OK
}
