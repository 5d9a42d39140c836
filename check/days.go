package check

import (
	"payoff/api"
	"payoff/cal"
)

// window is FIRST and LAST: the least and the greatest day on which a contract may be acquired.
type window struct {
	first, last int
}

// span is what the days of a loop come to.
type span struct {
	window     // its first and its last day
	end    int // the first day on which it may have come to its end
	count  int
}

// calendar tells days by a deal's dates.
type calendar struct {
	start    int
	holidays []api.Date
}

func calendarOf(d *api.Deal) calendar {
	start, _ := cal.Day(d.Start)
	return calendar{start, d.Holidays}
}

// daysOf tells the days that a contract leads to by its date or its range, and whether these fit; a contract of another kind always does.
func (c calendar) daysOf(con *api.Con, at window) (span, bool) {
	switch con.Kind {
	case api.CAt:
		number, _ := cal.Day(con.Date)
		day := number - c.start
		return span{window: window{day, day}}, day >= at.last
	case api.CFor, api.CAccum:
		return c.loop(con.Range, at)
	}
	return span{}, true
}

func (c calendar) loop(r api.Range, at window) (span, bool) {
	if r.Kind == api.RangeDates {
		days, fits := c.schedule(r, at.last)
		if !fits {
			return span{}, false
		}
		last := days[len(days)-1]
		return span{window{days[0], last}, last, len(days)}, true
	}
	if !rises(r) {
		return span{}, false
	}
	last := r.Lo + steps(r)*r.By
	return span{window{plus(at.first, r.Lo), plus(at.last, last)}, plus(at.first, last), plus(steps(r), 1)}, true
}

// rises tells whether a range of offsets fits.
func rises(r api.Range) bool {
	return r.Lo <= r.Hi && r.By >= 1
}

// steps tells how many offsets there are behind the first. (With it there may be more of them than an int can tell.)
func steps(r api.Range) int {
	return (r.Hi - r.Lo) / r.By
}

// schedule tells the days of a range of dates, and whether it fits a loop that is last acquired on that day.
func (c calendar) schedule(r api.Range, last int) ([]int, bool) {
	from, _ := cal.Day(r.From)
	to, _ := cal.Day(r.To)
	if from > to || to-from > api.MaxHorizon {
		return nil, false
	}
	days, e := cal.Schedule(r.From, r.To, r.Ten, r.Conv, c.holidays)
	if e != api.OK {
		return nil, false
	}
	shift(days, -c.start)
	return days, days[0] >= last
}

func shift(days []int, by int) {
	for i := range days {
		days[i] += by
	}
}

// kidWindow tells when a contract's kid may be acquired, by its own window and the days that it leads to.
func kidWindow(con *api.Con, kid int, at window, days span) window {
	switch con.Kind {
	case api.CDelay:
		return window{plus(at.first, con.Num), plus(at.last, con.Num)}
	case api.CAt, api.CFor:
		return days.window
	case api.CAccum:
		return window{days.end, days.last}
	case api.CWhen:
		at.last = plus(at.last, con.Num)
		if kid == 1 {
			at.first = plus(at.first, con.Num)
		}
	}
	return at
}
