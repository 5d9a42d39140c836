package cal_test

import (
	"math"
	"slices"
	"testing"

	"payoff/api"
	"payoff/cal"
)

// Examples 1 to 3.
func TestExamplesOfDates(t *testing.T) {
	for _, x := range []struct {
		d   api.Date
		day int
	}{{date(1900, 1, 1), 0}, {date(1900, 3, 1), 59}, {date(2000, 2, 29), 36583}, {date(2000, 3, 1), 36584}, {date(2199, 12, 31), 109572}} {
		if day, e := cal.Day(x.d); day != x.day || e != api.OK {
			t.Errorf("Day(%v): %d, %d", x.d, day, e)
		}
	}
	for _, d := range []api.Date{date(1900, 2, 29), date(2100, 2, 29), date(2000, 13, 1), date(2200, 1, 1)} {
		if _, e := cal.Day(d); e != api.ErrDate {
			t.Errorf("Day(%v): %d", d, e)
		}
	}
	if w, _ := cal.Weekday(0); w != 0 {
		t.Errorf("Weekday(0): %d", w)
	}
	if w, _ := cal.Weekday(36583); w != 1 {
		t.Errorf("Weekday(36583): %d", w)
	}
	if s, _ := cal.Text(date(1987, 5, 4)); s != "1987-05-04" {
		t.Errorf("Text: %q", s)
	}
}

// Example 4.
func TestExamplesOfAdd(t *testing.T) {
	for _, x := range []struct {
		d    api.Date
		t    api.Tenor
		n    int
		want api.Date
		e    api.Errno
	}{
		{date(2024, 1, 31), tenor(1, api.UnitMonth), 1, date(2024, 2, 29), api.OK},
		{date(2024, 1, 31), tenor(1, api.UnitMonth), 2, date(2024, 3, 31), api.OK},
		{date(2024, 1, 31), tenor(1, api.UnitMonth), -2, date(2023, 11, 30), api.OK},
		{date(2024, 2, 29), tenor(1, api.UnitYear), 1, date(2025, 2, 28), api.OK},
		{date(2024, 2, 29), tenor(1, api.UnitYear), 4, date(2028, 2, 29), api.OK},
		{date(2024, 2, 29), tenor(2, api.UnitWeek), -1, date(2024, 2, 15), api.OK},
		{date(2024, 2, 29), tenor(9, api.UnitMonth), 0, date(2024, 2, 29), api.OK},
		{date(2199, 12, 31), tenor(1, api.UnitDay), 1, api.Date{}, api.ErrRange},
		{date(2000, 1, 1), tenor(999, api.UnitYear), math.MaxInt, api.Date{}, api.ErrRange},
		{date(2000, 1, 32), tenor(0, api.UnitDay), 1, api.Date{}, api.ErrArg},
	} {
		if got, e := cal.Add(x.d, x.t, x.n); got != x.want || e != x.e {
			t.Errorf("Add(%v, %v, %d): %v, %d, want %v, %d", x.d, x.t, x.n, got, e, x.want, x.e)
		}
	}
}

// Examples 5 and 6.
func TestExamplesOfAdjust(t *testing.T) {
	for _, x := range []struct {
		day, conv int
		holidays  []int
		want      int
		e         api.Errno
	}{
		{45380, api.Following, nil, 45381, api.OK}, {45380, api.Modified, nil, 45378, api.OK},
		{45380, api.Modified, []int{45378}, 45377, api.OK}, {45380, api.Preceding, []int{45378}, 45377, api.OK},
		{45380, api.Unadjusted, nil, 45380, api.OK}, {45378, 4, nil, 0, api.ErrArg}, {109573, 4, nil, 0, api.ErrArg},
		{109573, api.Unadjusted, nil, 0, api.ErrRange}, {109572, api.Following, []int{109572}, 0, api.ErrRange},
		{109572, api.Modified, []int{109572}, 109571, api.OK},
	} {
		if got, e := cal.Adjust(x.day, x.conv, x.holidays); got != x.want || e != x.e {
			t.Errorf("Adjust(%d, %d, %v): %d, %d, want %d, %d", x.day, x.conv, x.holidays, got, e, x.want, x.e)
		}
	}
}

// Examples 7 to 9.
func TestExamplesOfSchedules(t *testing.T) {
	got, _ := cal.Schedule(date(2024, 1, 31), date(2024, 4, 30), tenor(1, api.UnitMonth), api.Modified, nil)
	if !slices.Equal(got, []int{45320, 45349, 45378, 45410}) {
		t.Errorf("by months: %v", got)
	}
	got, _ = cal.Schedule(date(2024, 3, 30), date(2024, 4, 1), tenor(1, api.UnitDay), api.Following, nil)
	if !slices.Equal(got, []int{45381}) {
		t.Errorf("by days: %v", got)
	}
	if _, e := cal.Schedule(date(2024, 3, 30), date(2024, 3, 29), tenor(1, api.UnitDay), 0, nil); e != api.ErrRange {
		t.Errorf("from behind to: %d", e)
	}
	for _, x := range []struct {
		a, b api.Date
		want int
	}{
		{date(2024, 1, 31), date(2024, 2, 29), 29}, {date(2024, 1, 30), date(2024, 3, 31), 60},
		{date(2024, 1, 29), date(2024, 3, 31), 62}, {date(2024, 3, 31), date(2024, 1, 31), -60},
	} {
		if n, e := cal.Thirty(x.a, x.b); n != x.want || e != api.OK {
			t.Errorf("Thirty(%v, %v): %d, %d", x.a, x.b, n, e)
		}
	}
	if got := slices.Collect(cal.Between(45378, 45384, []int{45381})); !slices.Equal(got, []int{45378, 45382, 45383}) {
		t.Errorf("Between: %v", got)
	}
	if cal.Business(-3, nil) {
		t.Errorf("Business(-3)")
	}
}
