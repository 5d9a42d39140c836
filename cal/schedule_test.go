package cal_test

import (
	"math"
	"math/big"
	"math/rand"
	"slices"
	"testing"

	"payoff/api"
	"payoff/cal"
)

func tenor(n, unit int) api.Tenor { return api.Tenor{N: n, Unit: unit} }

func noTenors() []api.Tenor {
	return []api.Tenor{
		{}, tenor(0, 1), tenor(1, 0), tenor(-1, 3), tenor(1000, 1), tenor(1, 5), tenor(1, -1),
		tenor(math.MaxInt, 4), tenor(math.MinInt, 4), tenor(1, math.MaxInt), tenor(1, math.MinInt),
	}
}

// added is P204 by unbounded numbers.
func added(d api.Date, t api.Tenor, n int) (api.Date, api.Errno) {
	count := new(big.Int).Mul(big.NewInt(int64(t.N)), big.NewInt(int64(n)))
	switch t.Unit {
	case api.UnitDay, api.UnitWeek:
		if t.Unit == api.UnitWeek {
			count.Mul(count, big.NewInt(7))
		}
		day, _ := cal.Day(d)
		count.Add(count, big.NewInt(int64(day)))
		if !count.IsInt64() {
			return api.Date{}, api.ErrRange
		}
		return cal.Date(int(count.Int64()))
	case api.UnitYear:
		count.Mul(count, big.NewInt(12))
	}
	count.Add(count, big.NewInt(int64(12*d.Y+d.M-1)))
	year, month := new(big.Int).DivMod(count, big.NewInt(12), new(big.Int))
	if year.Cmp(big.NewInt(1900)) < 0 || year.Cmp(big.NewInt(2199)) > 0 {
		return api.Date{}, api.ErrRange
	}
	want := date(int(year.Int64()), int(month.Int64())+1, d.D)
	for {
		if _, e := cal.Day(want); e == api.OK {
			return want, api.OK
		}
		want.D--
	}
}

// P204: held against unbounded numbers.
func TestAdd(t *testing.T) {
	dates := []api.Date{
		date(1900, 1, 1), date(1900, 1, 31), date(1900, 2, 28), date(1999, 12, 31), date(2000, 2, 29), date(2000, 3, 31),
		date(2023, 2, 28), date(2024, 1, 29), date(2024, 1, 30), date(2024, 1, 31), date(2024, 2, 29), date(2024, 12, 31),
		date(2100, 2, 28), date(2196, 2, 29), date(2199, 1, 31), date(2199, 12, 1), date(2199, 12, 31),
	}
	counts := []int{math.MinInt, math.MinInt + 1, math.MaxInt, math.MaxInt - 1, math.MaxInt / 2, math.MinInt / 2}
	for shift := range 63 {
		for near := -1; near <= 1; near++ {
			counts = append(counts, 1<<shift+near, -(1<<shift)+near)
		}
	}
	// Products that come back into the calendar if they wrap round.
	for _, n := range []int{2, 4, 7, 12, 14, 84, 999, 7 * 999, 12 * 999} {
		counts = append(counts, math.MaxInt/n, math.MinInt/n, math.MaxInt/n*2, math.MinInt/n*2, math.MaxInt/n+1)
	}
	for n := -320; n <= 320; n++ {
		counts = append(counts, n)
	}
	counts = append(counts, 3599, 3600, -3599, -3600, lastDay, lastDay+1, lastDay+2, -lastDay, -lastDay-1, -lastDay-2)
	for _, d := range dates {
		for _, units := range []int{1, 2, 3, 4, 6, 7, 12, 13, 100, 512, 998, 999} {
			for unit := api.UnitDay; unit <= api.UnitYear; unit++ {
				for _, n := range counts {
					want, e := added(d, tenor(units, unit), n)
					if got, f := cal.Add(d, tenor(units, unit), n); got != want || f != e {
						t.Fatalf("Add(%v, %d of %d, %d): %v, %d, want %v, %d", d, units, unit, n, got, f, want, e)
					}
				}
			}
		}
	}
}

// P204: every last day that an Add still reaches, and the first that it does not.
func TestAddEdges(t *testing.T) {
	first, last := date(1900, 1, 1), date(2199, 12, 31)
	for _, x := range []struct {
		d    api.Date
		t    api.Tenor
		n    int
		want api.Date
	}{
		{first, tenor(1, api.UnitDay), lastDay, last},
		{last, tenor(1, api.UnitDay), -lastDay, first},
		{first, tenor(1, api.UnitWeek), lastDay / 7, date(2199, 12, 30)},
		{date(1900, 1, 31), tenor(1, api.UnitMonth), 3599, last},
		{last, tenor(1, api.UnitMonth), -3599, date(1900, 1, 31)},
		{first, tenor(1, api.UnitYear), 299, date(2199, 1, 1)},
		{last, tenor(299, api.UnitYear), -1, date(1900, 12, 31)},
	} {
		if got, e := cal.Add(x.d, x.t, x.n); got != x.want || e != api.OK {
			t.Errorf("Add(%v, %v, %d): %v, %d", x.d, x.t, x.n, got, e)
		}
		further := x.n + 1
		if x.n < 0 {
			further = x.n - 1
		}
		if got, e := cal.Add(x.d, x.t, further); got != (api.Date{}) || e != api.ErrRange {
			t.Errorf("Add(%v, %v, %d): %v, %d", x.d, x.t, further, got, e)
		}
	}
}

// P204: ErrArg, then ErrDate, then ErrRange.
func TestAddOrder(t *testing.T) {
	for _, n := range []int{0, 1, math.MaxInt, math.MinInt} {
		for _, bad := range noTenors() {
			for _, d := range append(noDates(), date(2000, 1, 1)) {
				if got, e := cal.Add(d, bad, n); got != (api.Date{}) || e != api.ErrArg {
					t.Errorf("Add(%v, %v, %d): %v, %d", d, bad, n, got, e)
				}
			}
		}
		for _, d := range noDates() {
			for unit := api.UnitDay; unit <= api.UnitYear; unit++ {
				if got, e := cal.Add(d, tenor(999, unit), n); got != (api.Date{}) || e != api.ErrDate {
					t.Errorf("Add(%v, unit %d, %d): %v, %d", d, unit, n, got, e)
				}
			}
		}
	}
}

// scheduled is P207 by its own words, from the calls that it names.
func scheduled(from, to api.Date, t api.Tenor, conv int, holidays []api.Date) ([]int, api.Errno) {
	var closed []int
	for _, h := range holidays {
		day, _ := cal.Day(h)
		closed = append(closed, day)
	}
	last, _ := cal.Day(to)
	seen := map[int]bool{}
	var days []int
	for i := 0; ; i++ {
		d, e := cal.Add(from, t, i)
		if e != api.OK {
			break
		}
		day, _ := cal.Day(d)
		if day > last {
			break
		}
		moved, e := cal.Adjust(day, conv, closed)
		if e != api.OK {
			return nil, e
		}
		if !seen[moved] {
			days = append(days, moved)
		}
		seen[moved] = true
	}
	slices.Sort(days)
	return days, api.OK
}

// P207: many schedules, some with long runs of holidays, some about the calendar's ends.
func TestSchedule(t *testing.T) {
	chance := rand.New(rand.NewSource(207))
	for range 4000 {
		start := chance.Intn(lastDay + 1)
		switch chance.Intn(4) {
		case 0:
			start = chance.Intn(60)
		case 1:
			start = lastDay - chance.Intn(60)
		}
		end := min(start+chance.Intn(400), lastDay)
		var holidays []api.Date
		for range chance.Intn(60) {
			h, _ := cal.Date(max(0, min(lastDay, start+chance.Intn(80)-20)))
			holidays = append(holidays, h)
		}
		from, _ := cal.Date(start)
		to, _ := cal.Date(end)
		ten := tenor(1+chance.Intn(14), 1+chance.Intn(4))
		for conv := api.Unadjusted; conv <= api.Preceding; conv++ {
			want, e := scheduled(from, to, ten, conv, holidays)
			got, f := cal.Schedule(from, to, ten, conv, holidays)
			if !slices.Equal(got, want) || f != e {
				t.Fatalf("Schedule(%v, %v, %v, %d, %v): %v, %d, want %v, %d", from, to, ten, conv, holidays, got, f, want, e)
			}
		}
	}
}

// P207: a month's end that was cut short once is whole again later.
func TestScheduleCountsFromItsFirst(t *testing.T) {
	got, e := cal.Schedule(date(2023, 1, 31), date(2023, 5, 30), tenor(1, api.UnitMonth), api.Unadjusted, nil)
	var want []int
	for _, d := range []api.Date{date(2023, 1, 31), date(2023, 2, 28), date(2023, 3, 31), date(2023, 4, 30)} {
		day, _ := cal.Day(d)
		want = append(want, day)
	}
	if !slices.Equal(got, want) || e != api.OK {
		t.Errorf("%v, %d, want %v", got, e, want)
	}
}

// P207: an adjusted day may lie behind to, or ahead of from, and a schedule ends with the calendar.
func TestScheduleEdges(t *testing.T) {
	day := tenor(1, api.UnitDay)
	saturday := date(2024, 3, 30)
	for _, x := range []struct {
		from, to api.Date
		t        api.Tenor
		conv     int
		free     []api.Date
		want     []int
	}{
		{saturday, saturday, day, api.Following, nil, []int{45381}},
		{saturday, saturday, day, api.Preceding, nil, []int{45378}},
		{saturday, saturday, tenor(999, api.UnitYear), api.Modified, nil, []int{45378}},
		{date(2199, 12, 30), date(2199, 12, 31), day, api.Preceding, []api.Date{date(2199, 12, 31), date(2199, 12, 30)}, []int{109568}},
		{date(2199, 1, 31), date(2199, 12, 31), tenor(11, api.UnitMonth), api.Following, nil, []int{109238, 109572}},
		{date(1900, 1, 1), date(1900, 1, 2), day, api.Following, []api.Date{date(1900, 1, 1), date(1900, 1, 1)}, []int{1}},
	} {
		if got, e := cal.Schedule(x.from, x.to, x.t, x.conv, x.free); !slices.Equal(got, x.want) || e != api.OK {
			t.Errorf("Schedule(%v, %v, %v, %d, %v): %v, %d, want %v", x.from, x.to, x.t, x.conv, x.free, got, e, x.want)
		}
	}
	if got, e := cal.Schedule(date(1900, 1, 1), date(1900, 1, 2), day, api.Preceding, []api.Date{date(1900, 1, 1)}); got != nil || e != api.ErrRange {
		t.Errorf("none ahead: %v, %d", got, e)
	}
}

// P207: ErrArg, then ErrDate, then ErrRange.
func TestScheduleOrder(t *testing.T) {
	a, b, day := date(2024, 3, 30), date(2024, 3, 29), tenor(1, api.UnitDay)
	refuse := func(from, to api.Date, ten api.Tenor, conv int, free []api.Date, want api.Errno) {
		t.Helper()
		if got, e := cal.Schedule(from, to, ten, conv, free); got != nil || e != want {
			t.Errorf("Schedule(%v, %v, %v, %d, %v): %v, %d, want %d", from, to, ten, conv, free, got, e, want)
		}
	}
	for _, conv := range []int{-1, 4, math.MaxInt, math.MinInt} {
		refuse(b, a, day, conv, nil, api.ErrArg)
		refuse(a, b, day, conv, nil, api.ErrArg)
		refuse(api.Date{}, b, day, conv, []api.Date{{}}, api.ErrArg)
	}
	for _, ten := range noTenors() {
		refuse(b, a, ten, 0, nil, api.ErrArg)
		refuse(a, api.Date{}, ten, 0, []api.Date{{}}, api.ErrArg)
	}
	for _, d := range noDates() {
		refuse(d, a, day, 0, nil, api.ErrDate)
		refuse(a, d, day, 0, nil, api.ErrDate)
		refuse(b, a, day, 0, []api.Date{a, b, d}, api.ErrDate)
		refuse(a, b, day, 0, []api.Date{d, a}, api.ErrDate)
	}
	refuse(a, b, day, 0, nil, api.ErrRange)
	refuse(date(2199, 12, 31), date(1900, 1, 1), day, 0, nil, api.ErrRange)
}

// P207, P210: the whole calendar closed but for its last day is passed over in short time.
func TestScheduleOfAClosedCalendar(t *testing.T) {
	var holidays []api.Date
	for day := range lastDay {
		d, _ := cal.Date(day)
		holidays = append(holidays, d)
	}
	first, last := date(1900, 1, 1), date(2199, 12, 31)
	got, e := cal.Schedule(first, last, tenor(1, api.UnitDay), api.Following, holidays)
	if !slices.Equal(got, []int{lastDay}) || e != api.OK {
		t.Errorf("Following: %v, %d", got, e)
	}
	got, e = cal.Schedule(first, last, tenor(1, api.UnitDay), api.Modified, holidays)
	if got != nil || e != api.ErrRange {
		t.Errorf("Modified: %d days, %d", len(got), e)
	}
}
