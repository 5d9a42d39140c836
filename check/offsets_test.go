package check_test

import (
	"math"
	"math/rand"
	"reflect"
	"slices"
	"testing"

	"payoff/api"
	"payoff/check"
)

func holdOffsets(t *testing.T, d api.Deal, r api.Range, day int) api.Errno {
	t.Helper()
	want, e := plainOffsets(d, r, day)
	wantOffsets(t, d, r, day, e, want...)
	return e
}

func days(lo, hi, by int) api.Range { return api.Range{Kind: api.RangeDays, Lo: lo, Hi: hi, By: by} }

func date(y, m, d int) api.Date { return api.Date{Y: y, M: m, D: d} }

func dates(from, to api.Date, n, unit, conv int) api.Range {
	return api.Range{Kind: api.RangeDates, From: from, To: to, Ten: api.Tenor{N: n, Unit: unit}, Conv: conv}
}

// P810: the edges of how many days a range has, and of how great they are.
func TestOffsetsOfDays(t *testing.T) {
	d := deal(t, "contract zero;")
	for _, day := range []int{0, 1, 77, 3660, 3661, stop - 1, stop} {
		wantOffsets(t, d, days(2, 9, 3), day, api.OK, 2, 5, 8)
		wantOffsets(t, d, days(2, 8, 3), day, api.OK, 2, 5, 8)
		wantOffsets(t, d, days(2, 7, 3), day, api.OK, 2, 5)
		wantOffsets(t, d, days(5, 5, 9), day, api.OK, 5)
		wantOffsets(t, d, days(0, 0, 1), day, api.OK, 0)
		wantOffsets(t, d, days(5, 4, 1), day, api.ErrType)
		wantOffsets(t, d, days(4, 5, 0), day, api.ErrType)
		wantOffsets(t, d, days(0, math.MaxInt, 0), day, api.ErrType)
		wantOffsets(t, d, days(math.MaxInt, 0, 1), day, api.ErrType)
		wantOffsets(t, d, days(math.MaxInt, math.MaxInt, 1), day, api.OK, math.MaxInt)
		wantOffsets(t, d, days(math.MaxInt-1, math.MaxInt, math.MaxInt), day, api.OK, math.MaxInt-1)
		wantOffsets(t, d, days(0, math.MaxInt, math.MaxInt), day, api.OK, 0, math.MaxInt)
		wantOffsets(t, d, days(stop-1, stop+2, 2), day, api.OK, stop-1, stop+1)
		wantOffsets(t, d, days(0, math.MaxInt, 1), day, api.ErrLong)
		wantOffsets(t, d, days(0, math.MaxInt, math.MaxInt/3661), day, api.ErrLong)
		for _, by := range []int{1, 2, 1000, 1 << 40} {
			for _, lo := range []int{0, 3, 1 << 40} {
				if e := holdOffsets(t, d, days(lo, lo+3660*by+by-1, by), day); e != api.OK {
					t.Errorf("3661 days: %d", e)
				}
				if e := holdOffsets(t, d, days(lo, lo+3661*by, by), day); e != api.ErrLong {
					t.Errorf("3662 days: %d", e)
				}
			}
		}
	}
}

// P810: the edges of a schedule's length, of its first day, and of the calendar.
func TestOffsetsOfDates(t *testing.T) {
	d := deal(t, "holidays 2024-01-01, 2024-07-01, 2199-12-31, 1900-01-01; contract zero;")
	from := date(2024, 7, 1) // day 182, a holiday, a Monday
	for _, day := range []int{0, 178, 179, 180, 181, 182, 183, 184, 3660, stop - 1, stop} {
		for _, to := range []api.Date{date(2024, 6, 30), from, date(2024, 7, 2), date(2024, 12, 31), date(2034, 7, 8), date(2034, 7, 9), date(2034, 7, 10), date(2199, 12, 31)} {
			for conv := api.Unadjusted; conv <= api.Preceding; conv++ {
				for unit := api.UnitDay; unit <= api.UnitYear; unit++ {
					holdOffsets(t, d, dates(from, to, 1, unit, conv), day)
					holdOffsets(t, d, dates(from, to, 999, unit, conv), day)
				}
			}
		}
	}
	if e := holdOffsets(t, d, dates(from, date(2034, 7, 9), 1, api.UnitDay, 0), 182); e != api.OK {
		t.Errorf("3661 dates: %d", e)
	}
	if e := holdOffsets(t, d, dates(from, date(2034, 7, 10), 1, api.UnitYear, 0), 182); e != api.ErrType {
		t.Errorf("3661 days apart: %d", e)
	}
	wantOffsets(t, d, dates(from, from, 1, 1, api.Preceding), 180, api.ErrType) // the Friday ahead of it is day 179
	wantOffsets(t, d, dates(from, from, 1, 1, api.Preceding), 179, api.OK, 0)
	wantOffsets(t, d, dates(from, from, 1, 1, api.Following), 183, api.OK, 0)
	d.Start = date(2199, 12, 1)
	last := date(2199, 12, 31)
	wantOffsets(t, d, dates(last, last, 1, 1, api.Following), 0, api.ErrType) // there is no day to move to
	wantOffsets(t, d, dates(last, last, 1, 1, api.Modified), 0, api.OK, 29)
	d.Start = date(1900, 1, 1)
	wantOffsets(t, d, dates(d.Start, d.Start, 1, 1, api.Preceding), 0, api.ErrType)
	wantOffsets(t, d, dates(d.Start, d.Start, 1, 1, api.Unadjusted), 0, api.OK, 0)
	wantOffsets(t, d, dates(d.Start, d.Start, 1, 1, api.Following), 0, api.OK, 1)
}

// P810: the deal need be no more than valid, and its holidays count.
func TestOffsetsOfADealThatDoesNotFit(t *testing.T) {
	d := deal(t, "holidays 2024-01-02; observe A, A; def f() = g(); contract pay(EUR, true);")
	wantOffsets(t, d, dates(date(2024, 1, 2), date(2024, 1, 4), 1, 1, api.Following), 1, api.OK, 1, 2)
	wantOffsets(t, d, days(0, 2, 1), 1, api.OK, 0, 1, 2)
	d.Name = "A"
	wantOffsets(t, d, days(0, 2, 1), 1, api.ErrArg)
	wantOffsets(t, d, days(3, 2, 1), 1, api.ErrArg)
	wantOffsets(t, api.Deal{}, days(0, 9999, 1), 1, api.ErrArg)
}

// P810: days outside 0 to 2^30, ahead of all else.
func TestOffsetsOfDaysOutside(t *testing.T) {
	d := deal(t, "contract zero;")
	for _, day := range []int{-1, math.MinInt, stop + 1, math.MaxInt} {
		for _, r := range []api.Range{days(0, 2, 1), days(3, 2, 1), days(0, 9999, 1), {}, dates(date(2024, 1, 2), date(2024, 1, 4), 1, 1, 0)} {
			wantOffsets(t, d, r, day, api.ErrArg)
		}
	}
}

// P810, P812: each field of a range, and two of them, with other numbers.
func TestOffsetsOfChangedRanges(t *testing.T) {
	d := deal(t, "holidays 2024-01-04; contract zero;")
	others := []int{math.MinInt, -1, 0, 1, 2, 3, 4, 5, 12, 13, 29, 31, 32, 999, 1000, 1899, 1900, 2023, 2024, 2025, 2199, 2200, math.MaxInt}
	count := map[api.Errno]int{}
	for _, given := range []api.Range{{}, days(2, 9, 3), dates(date(2024, 2, 29), date(2025, 6, 30), 3, api.UnitMonth, api.Modified)} {
		r := given
		fields := numbersOf(reflect.ValueOf(&r).Elem())
		for i, one := range fields {
			for _, two := range fields[i:] {
				for _, n := range others {
					for _, k := range others {
						r = given
						one.SetInt(int64(n))
						two.SetInt(int64(k))
						count[holdOffsets(t, d, r, 1)]++
						if t.Failed() {
							return
						}
					}
				}
			}
		}
	}
	if len(count) != 4 {
		t.Errorf("%v", count)
	}
}

// numbersOf lists all the numbers in a struct.
func numbersOf(v reflect.Value) []reflect.Value {
	if v.Kind() == reflect.Int {
		return []reflect.Value{v}
	}
	var all []reflect.Value
	for i := range v.NumField() {
		all = append(all, numbersOf(v.Field(i))...)
	}
	return all
}

// P810: ranges by chance, over deals by chance.
func TestOffsetsByChance(t *testing.T) {
	chance := rand.New(rand.NewSource(83))
	for range 3000 {
		m := &maker{Rand: chance, errs: 4, huge: chance.Intn(2) == 0}
		m.Deal = madeDeal(chance, chance.Intn(2)*50, false)
		day := m.days(40)
		r := m.span(0, min(day, 100))
		if r.Kind == api.RangeDays && r.Lo <= r.Hi && (r.Hi-r.Lo)/r.By < math.MaxInt/2 || r.Kind == api.RangeDates {
			holdOffsets(t, m.Deal, r, day)
		}
		if t.Failed() {
			return
		}
	}
}

// P810, DOC.md: what is answered is new memory each time.
func TestOffsetsAreNewMemory(t *testing.T) {
	d := deal(t, "contract zero;")
	for _, r := range []api.Range{days(0, 40, 1), dates(date(2024, 2, 1), date(2024, 12, 1), 1, api.UnitMonth, 0)} {
		one, _ := check.Offsets(d, r, 0)
		two, _ := check.Offsets(d, r, 0)
		kept := slices.Clone(two)
		for i := range one[:cap(one)] {
			one[:cap(one)][i] = -1
		}
		if !slices.Equal(two, kept) {
			t.Errorf("%v", two)
		}
	}
}
