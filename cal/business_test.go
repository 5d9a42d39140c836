package cal_test

import (
	"math"
	"math/rand"
	"slices"
	"testing"
	"time"

	"payoff/api"
	"payoff/cal"
)

// isBusiness is the document's word, by the library's own calendar.
func isBusiness(day int, holidays []int) bool {
	if day < 0 || day > lastDay || slices.Contains(holidays, day) {
		return false
	}
	w := clock(day).Weekday()
	return w != time.Saturday && w != time.Sunday
}

// adjusted is P206 by its own words, a day at a time.
func adjusted(day, conv int, holidays []int) (int, api.Errno) {
	if conv == api.Unadjusted || isBusiness(day, holidays) {
		return day, api.OK
	}
	behind, ahead := day, day
	for behind <= lastDay && !isBusiness(behind, holidays) {
		behind++
	}
	for ahead >= 0 && !isBusiness(ahead, holidays) {
		ahead--
	}
	x, y := clock(day), clock(behind)
	same := x.Year() == y.Year() && x.Month() == y.Month()
	if conv == api.Following || conv == api.Modified && behind <= lastDay && same {
		if behind > lastDay {
			return 0, api.ErrRange
		}
		return behind, api.OK
	}
	if ahead < 0 {
		return 0, api.ErrRange
	}
	return ahead, api.OK
}

// someHolidays tells days about a day, some twice, some outside the calendar, in any order.
func someHolidays(chance *rand.Rand, about int) []int {
	var list []int
	for range chance.Intn(90) {
		list = append(list, about+chance.Intn(100)-50)
	}
	switch chance.Intn(4) {
	case 0: // a long run, over words and months
		run := about - chance.Intn(200)
		for i := range 100 + chance.Intn(300) {
			list = append(list, run+i)
		}
	case 1:
		list = append(list, outside()...)
	}
	return list
}

func someDay(chance *rand.Rand) int {
	switch chance.Intn(4) {
	case 0:
		return chance.Intn(70)
	case 1:
		return lastDay - chance.Intn(70)
	}
	return chance.Intn(lastDay + 1)
}

// P205: every day without holidays, and with itself or its neighbours as some.
func TestBusiness(t *testing.T) {
	for day := -10; day <= lastDay+10; day++ {
		if cal.Business(day, nil) != isBusiness(day, nil) {
			t.Fatalf("Business(%d, none): %t", day, cal.Business(day, nil))
		}
		if cal.Business(day, []int{day - 1, day + 1, -1}) != isBusiness(day, nil) {
			t.Fatalf("Business(%d, its neighbours)", day)
		}
		if cal.Business(day, []int{5, day}) || cal.Business(day, []int{day, day, 5}) {
			t.Fatalf("Business(%d, itself)", day)
		}
	}
	for _, day := range outside() {
		if cal.Business(day, nil) || cal.Business(day, []int{day}) {
			t.Errorf("Business(%d)", day)
		}
	}
}

// P206: every day of a year and of the calendar's ends, then days with holidays about them.
func TestAdjust(t *testing.T) {
	hold := func(day, conv int, holidays []int) {
		t.Helper()
		want, e := adjusted(day, conv, holidays)
		if got, f := cal.Adjust(day, conv, holidays); got != want || f != e {
			t.Fatalf("Adjust(%d, %d, %v): %d, %d, want %d, %d", day, conv, holidays, got, f, want, e)
		}
	}
	for conv := api.Unadjusted; conv <= api.Preceding; conv++ {
		for i := range 400 {
			for _, day := range []int{i, 45291 + i, lastDay - i} {
				hold(day, conv, nil)
				hold(day, conv, []int{day})
				hold(day, conv, []int{day + 1, day, day - 1})
			}
		}
	}
	chance := rand.New(rand.NewSource(206))
	for range 4000 {
		day := someDay(chance)
		holidays := someHolidays(chance, day)
		for conv := api.Unadjusted; conv <= api.Preceding; conv++ {
			hold(day, conv, holidays)
		}
	}
}

// P206: runs of holidays of every length, from and to every place of a word of 64 days.
func TestAdjustOverRuns(t *testing.T) {
	for first := 130; first < 200; first++ {
		var run []int
		for day := first; day < first+140; day++ {
			run = append(run, day)
			for conv := api.Following; conv <= api.Preceding; conv++ {
				for _, from := range []int{first, day} {
					want, e := adjusted(from, conv, run)
					if got, f := cal.Adjust(from, conv, run); got != want || f != e {
						t.Fatalf("Adjust(%d, %d, %d to %d): %d, %d, want %d, %d", from, conv, first, day, got, f, want, e)
					}
				}
			}
		}
	}
}

// P206: the same month of another year is another month.
func TestModifiedOverAYear(t *testing.T) {
	start, _ := cal.Day(date(2024, 3, 29))
	var year []int
	for i := range 365 {
		year = append(year, start+i)
	}
	want, _ := cal.Day(date(2024, 3, 28))
	if got, e := cal.Adjust(start, api.Modified, year); got != want || e != api.OK {
		t.Errorf("%d, %d, want %d", got, e, want)
	}
}

// P206: without a business day at all, and with one alone.
func TestAdjustInAClosedCalendar(t *testing.T) {
	all := make([]int, lastDay+1)
	for i := range all {
		all[i] = lastDay - i
	}
	for _, day := range []int{0, 63, 64, 45380, lastDay - 1, lastDay} {
		for conv := api.Following; conv <= api.Preceding; conv++ {
			if got, e := cal.Adjust(day, conv, all); got != 0 || e != api.ErrRange {
				t.Errorf("Adjust(%d, %d, all): %d, %d", day, conv, got, e)
			}
		}
		if got, e := cal.Adjust(day, api.Unadjusted, all); got != day || e != api.OK {
			t.Errorf("Adjust(%d, Unadjusted, all): %d, %d", day, got, e)
		}
	}
	if got, e := cal.Adjust(0, api.Following, all[1:]); got != lastDay || e != api.OK {
		t.Errorf("the last day alone: %d, %d", got, e)
	}
	if got, e := cal.Adjust(lastDay, api.Modified, all[:lastDay]); got != 0 || e != api.OK {
		t.Errorf("the first day alone: %d, %d", got, e)
	}
}

// P206: ErrArg, then ErrRange.
func TestAdjustOrder(t *testing.T) {
	for _, conv := range []int{-1, 4, 5, math.MinInt, math.MaxInt} {
		for _, day := range append(outside(), 0, 45378, 45380, lastDay) {
			if got, e := cal.Adjust(day, conv, nil); got != 0 || e != api.ErrArg {
				t.Errorf("Adjust(%d, %d): %d, %d", day, conv, got, e)
			}
		}
	}
	for conv := api.Unadjusted; conv <= api.Preceding; conv++ {
		for _, day := range outside() {
			if got, e := cal.Adjust(day, conv, []int{day}); got != 0 || e != api.ErrRange {
				t.Errorf("Adjust(%d, %d): %d, %d", day, conv, got, e)
			}
		}
	}
}

func between(from, to int, holidays []int) []int {
	var days []int
	for day := max(from, 0); day < min(to, lastDay+1); day++ {
		if isBusiness(day, holidays) {
			days = append(days, day)
		}
	}
	return days
}

// P209: stretches of all lengths about the words' ends, and with holidays.
func TestBetween(t *testing.T) {
	for from := -3; from < 70; from++ {
		for to := -3; to < 200; to++ {
			if got := slices.Collect(cal.Between(from, to, nil)); !slices.Equal(got, between(from, to, nil)) {
				t.Fatalf("Between(%d, %d): %v", from, to, got)
			}
		}
	}
	chance := rand.New(rand.NewSource(209))
	for range 4000 {
		from := someDay(chance)
		to := from + chance.Intn(400) - 20
		holidays := someHolidays(chance, from)
		want := between(from, to, holidays)
		if got := slices.Collect(cal.Between(from, to, holidays)); !slices.Equal(got, want) {
			t.Fatalf("Between(%d, %d, %v): %v, want %v", from, to, holidays, got, want)
		}
	}
}

// P209: bounds outside the calendar.
func TestBetweenOutside(t *testing.T) {
	all := between(0, lastDay+1, nil)
	for _, x := range [][2]int{{0, lastDay + 1}, {math.MinInt, math.MaxInt}, {-1, lastDay + 2}, {math.MinInt, lastDay + 1}, {0, math.MaxInt}} {
		if got := slices.Collect(cal.Between(x[0], x[1], outside())); !slices.Equal(got, all) {
			t.Errorf("Between(%d, %d): %d days", x[0], x[1], len(got))
		}
	}
	for _, x := range [][2]int{
		{9, 9}, {9, 3}, {-9, 0}, {-9, -3}, {lastDay + 1, math.MaxInt}, {lastDay, lastDay}, {math.MaxInt, math.MinInt},
		{math.MinInt, math.MinInt}, {math.MaxInt, math.MaxInt}, {math.MinInt, 0}, {math.MaxInt - 1, math.MaxInt}, {5, 7},
	} {
		if got := slices.Collect(cal.Between(x[0], x[1], nil)); len(got) != 0 {
			t.Errorf("Between(%d, %d): %v", x[0], x[1], got)
		}
	}
	if got := slices.Collect(cal.Between(lastDay, math.MaxInt, nil)); !slices.Equal(got, []int{lastDay}) {
		t.Errorf("the last day: %v", got)
	}
}

// P209: left early, gone over again, and inside another loop over it.
func TestBetweenAgain(t *testing.T) {
	seq := cal.Between(45378, 45600, []int{45381})
	want := between(45378, 45600, []int{45381})
	for stop := range want {
		var got []int
		for day := range seq {
			got = append(got, day)
			if len(got) > stop {
				break
			}
		}
		if !slices.Equal(got, want[:stop+1]) {
			t.Fatalf("left behind %d: %v", stop+1, got)
		}
	}
	var outer []int
	for day := range seq {
		outer = append(outer, day)
		var inner []int
		for other := range seq {
			if other > day {
				break
			}
			inner = append(inner, other)
		}
		if !slices.Equal(inner, outer) {
			t.Fatalf("inside another loop, at %d: %v", day, inner)
		}
	}
	if !slices.Equal(outer, want) {
		t.Errorf("gone over again: %v", outer)
	}
}

// P209: it goes by the holidays as they were, also while it is gone over.
func TestBetweenKeepsItsHolidays(t *testing.T) {
	holidays := []int{45381, 45383}
	seq := cal.Between(45378, 45390, holidays)
	want := between(45378, 45390, []int{45381, 45383})
	holidays[0], holidays[1] = 45378, 45382
	var got []int
	for day := range seq {
		got = append(got, day)
		holidays[0]++
	}
	if !slices.Equal(got, want) {
		t.Errorf("%v, want %v", got, want)
	}
	// Another iterator of the same arguments knows nothing of the first.
	other := slices.Collect(cal.Between(45378, 45390, nil))
	if again := slices.Collect(seq); !slices.Equal(again, want) || !slices.Equal(other, between(45378, 45390, nil)) {
		t.Errorf("%v and %v", again, other)
	}
}

// P210: lists that are handed in stay as they are, their spare room too, and answers are memory of their own.
func TestListsStayAsTheyAre(t *testing.T) {
	holidays := []int{45382, 45378, 45382, -4, 45378, 7, 8, 9}
	kept := slices.Clone(holidays)
	cal.Business(45378, holidays[:5])
	for conv := api.Unadjusted; conv <= api.Preceding; conv++ {
		cal.Adjust(45380, conv, holidays[:5])
	}
	for range cal.Between(45370, 45390, holidays[:5]) {
	}
	if !slices.Equal(holidays, kept) {
		t.Errorf("holidays became %v", holidays)
	}
	dates := []api.Date{date(2024, 4, 1), date(2024, 3, 29), date(2024, 4, 1), date(1, 1, 1)}
	keptDates := slices.Clone(dates)
	month := tenor(1, api.UnitMonth)
	first, _ := cal.Schedule(date(2024, 1, 31), date(2024, 4, 30), month, api.Modified, dates[:3])
	second, _ := cal.Schedule(date(2024, 1, 31), date(2024, 4, 30), month, api.Modified, dates[:3])
	if !slices.Equal(dates, keptDates) {
		t.Errorf("holidays became %v", dates)
	}
	want := slices.Clone(second)
	clear(first[:cap(first)])
	if !slices.Equal(second, want) {
		t.Errorf("two answers share memory")
	}
}
