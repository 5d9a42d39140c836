package cal_test

import (
	"math"
	"testing"
	"time"

	"payoff/api"
	"payoff/cal"
)

const lastDay = 109572

func date(y, m, d int) api.Date { return api.Date{Y: y, M: m, D: d} }

// clock tells a day's date by the library's own calendar.
func clock(day int) time.Time {
	return time.Date(1900, 1, 1+day, 0, 0, 0, 0, time.UTC)
}

func fromClock(t time.Time) api.Date { return date(t.Year(), int(t.Month()), t.Day()) }

// There are no dates of these, each for one reason.
func noDates() []api.Date {
	list := []api.Date{
		{}, date(1899, 12, 31), date(2200, 1, 1), date(0, 1, 1), date(-2000, 1, 1),
		date(2000, 0, 1), date(2000, 13, 1), date(2000, -1, 1),
		date(2000, 1, 0), date(2000, 1, -1), date(2000, 1, 32), date(2000, 4, 31),
		date(1900, 2, 29), date(2100, 2, 29), date(2000, 2, 30), date(2023, 2, 29), date(2024, 2, 30),
	}
	for _, x := range []int{math.MinInt, math.MaxInt} {
		list = append(list, date(x, 1, 1), date(2000, x, 1), date(2000, 1, x))
	}
	return list
}

func outside() []int {
	return []int{-1, -7, lastDay + 1, lastDay + 7, math.MinInt, math.MaxInt, math.MinInt + 1, math.MaxInt - 1}
}

// P201, P202, P203: every day of the calendar.
func TestEveryDay(t *testing.T) {
	for day := 0; day <= lastDay; day++ {
		at := clock(day)
		want := fromClock(at)
		if d, e := cal.Date(day); d != want || e != api.OK {
			t.Fatalf("Date(%d): %v, %d, want %v", day, d, e, want)
		}
		if n, e := cal.Day(want); n != day || e != api.OK {
			t.Fatalf("Day(%v): %d, %d, want %d", want, n, e, day)
		}
		if w, e := cal.Weekday(day); w != (int(at.Weekday())+6)%7 || e != api.OK {
			t.Fatalf("Weekday(%d): %d, %d, which is a %v", day, w, e, at.Weekday())
		}
		text := at.Format("2006-01-02")
		if s, e := cal.Text(want); s != text || e != api.OK {
			t.Fatalf("Text(%v): %q, %d", want, s, e)
		}
		if d, e := cal.Parse(text); d != want || e != api.OK {
			t.Fatalf("Parse(%q): %v, %d", text, d, e)
		}
	}
}

// P201: just those dates exist that the library's calendar leaves as they are.
func TestWhichDatesExist(t *testing.T) {
	for y := 1890; y <= 2210; y++ {
		for m := -1; m <= 14; m++ {
			for d := -1; d <= 33; d++ {
				x := date(y, m, d)
				real := fromClock(time.Date(y, time.Month(m), d, 0, 0, 0, 0, time.UTC)) == x && y >= 1900 && y <= 2199
				n, e := cal.Day(x)
				if real != (e == api.OK) || !real && (n != 0 || e != api.ErrDate) {
					t.Fatalf("Day(%v): %d, %d", x, n, e)
				}
			}
		}
	}
}

// P201, P203, P208: what does not exist.
func TestNoDates(t *testing.T) {
	good := date(2024, 1, 31)
	for _, d := range noDates() {
		if n, e := cal.Day(d); n != 0 || e != api.ErrDate {
			t.Errorf("Day(%v): %d, %d", d, n, e)
		}
		if s, e := cal.Text(d); s != "" || e != api.ErrDate {
			t.Errorf("Text(%v): %q, %d", d, s, e)
		}
		if n, e := cal.Thirty(d, good); n != 0 || e != api.ErrDate {
			t.Errorf("Thirty(%v, ..): %d, %d", d, n, e)
		}
		if n, e := cal.Thirty(good, d); n != 0 || e != api.ErrDate {
			t.Errorf("Thirty(.., %v): %d, %d", d, n, e)
		}
	}
}

// P201, P202: numbers outside the calendar.
func TestNoDays(t *testing.T) {
	for _, day := range outside() {
		if d, e := cal.Date(day); d != (api.Date{}) || e != api.ErrRange {
			t.Errorf("Date(%d): %v, %d", day, d, e)
		}
		if w, e := cal.Weekday(day); w != 0 || e != api.ErrRange {
			t.Errorf("Weekday(%d): %d, %d", day, w, e)
		}
	}
}

// P203: each text that is another by one byte, by its length, or by its date.
func TestParseRefuses(t *testing.T) {
	refuse := func(s string) {
		t.Helper()
		if d, e := cal.Parse(s); d != (api.Date{}) || e != api.ErrDate {
			t.Errorf("Parse(%q): %v, %d", s, d, e)
		}
	}
	const good = "2024-02-29"
	for i := range len(good) {
		for b := range 256 {
			s := good[:i] + string([]byte{byte(b)}) + good[i+1:]
			d, e := cal.Parse(s)
			if text, _ := cal.Text(d); e == api.OK && text != s {
				t.Errorf("Parse(%q): %v", s, d)
			}
			if digit := b >= '0' && b <= '9'; i != 4 && i != 7 && !digit || (i == 4 || i == 7) && b != '-' {
				refuse(s)
			}
		}
		refuse(good[:i])
		refuse(good + good[:i+1])
		refuse(" " + good[:i])
	}
	for _, s := range []string{
		"2023-02-29", "2024-2-29", "2024-02-9", "024-02-29", "+024-02-29", "2024-+2-29", "2024-02-+9", "-024-02-29",
		"2024-02-29 ", " 2024-02-29", "2024-02-29\n", "20240229", "2024/02/29", "1899-12-31", "2200-01-01", "0000-00-00",
		"2024-00-01", "2024-13-01", "2024-01-00", "2024-01-32", "2024-04-31", "9999-99-99", "12024-02-29", "2024-02-029",
		"２０24-02-29", "2024-02-2\xb2", "2024-02\x0029",
	} {
		refuse(s)
	}
}

// P208: by the promise's own words, over dates about the months' ends.
func TestThirty(t *testing.T) {
	var dates []api.Date
	for _, y := range []int{1900, 1999, 2000, 2023, 2024, 2199} {
		for m := 1; m <= 12; m++ {
			for _, d := range []int{1, 15, 27, 28, 29, 30, 31} {
				if _, e := cal.Day(date(y, m, d)); e == api.OK {
					dates = append(dates, date(y, m, d))
				}
			}
		}
	}
	for _, a := range dates {
		for _, b := range dates {
			x, y := a.D, b.D
			if x == 31 {
				x = 30
			}
			if y == 31 && x == 30 {
				y = 30
			}
			want := 360*(b.Y-a.Y) + 30*(b.M-a.M) + (y - x)
			if n, e := cal.Thirty(a, b); n != want || e != api.OK {
				t.Fatalf("Thirty(%v, %v): %d, %d, want %d", a, b, n, e, want)
			}
		}
	}
}
