package cal

import (
	"iter"
	"math/bits"
	"slices"

	"payoff/api"
)

// Saturday is the first weekday without business.
const saturday = 5

// Business tells whether a day is neither Saturday nor Sunday nor one of the holidays.
func Business(day int, holidays []int) bool {
	return inCalendar(day) && weekday(day) < saturday && !slices.Contains(holidays, day)
}

// Adjust moves a day that is no business day by a convention.
func Adjust(day int, conv int, holidays []int) (int, api.Errno) {
	if !isConvention(conv) {
		return 0, api.ErrArg
	}
	if !inCalendar(day) {
		return 0, api.ErrRange
	}
	if conv == api.Unadjusted {
		return day, api.OK
	}
	return openDays(0, dayCount, holidays).adjust(day, conv)
}

// Between gives the business days from one day up to, but not with, another, in order.
func Between(from int, to int, holidays []int) iter.Seq[int] {
	return openDays(from, to, holidays).upFrom(from)
}

func isConvention(conv int) bool {
	switch conv {
	case api.Unadjusted, api.Following, api.Modified, api.Preceding:
		return true
	}
	return false
}

// stretch holds the business days of a part of the calendar, a bit a day: long
// runs of holidays are so passed over a word at a time, however often they are met.
type stretch struct {
	first int // the day of the lowest bit
	words []uint64
}

// openDays tells the business days that are at least from and below to.
func openDays(from, to int, holidays []int) stretch {
	from, to = max(from, 0), min(to, dayCount)
	if from >= to {
		return stretch{}
	}
	s := stretch{first: from, words: make([]uint64, (to-from+63)/64)}
	var weeks [7]uint64
	for first := range weeks {
		weeks[first] = weekdaysOf64(first)
	}
	for i := range s.words {
		s.words[i] = weeks[weekday(from+64*i)]
	}
	for day := to; day < from+64*len(s.words); day++ {
		s.markClosed(day)
	}
	for _, day := range holidays {
		if day >= from && day < to {
			s.markClosed(day)
		}
	}
	return s
}

// weekdaysOf64 marks, of 64 days of which the first has that weekday, those that are no weekend.
func weekdaysOf64(first int) uint64 {
	var w uint64
	for i := range 64 {
		if (first+i)%7 < saturday {
			w |= 1 << i
		}
	}
	return w
}

func (s stretch) markClosed(day int) {
	i := day - s.first
	s.words[i/64] &^= 1 << (i % 64)
}

// upFrom gives, rising, the business days of the stretch that are at least day.
func (s stretch) upFrom(day int) iter.Seq[int] {
	start := max(day, s.first) - s.first
	return func(yield func(int) bool) {
		passed := uint64(1)<<(start%64) - 1
		for i := start / 64; i < len(s.words); i++ {
			for left := s.words[i] &^ passed; left != 0; left &= left - 1 {
				if !yield(s.first + 64*i + bits.TrailingZeros64(left)) {
					return
				}
			}
			passed = 0
		}
	}
}

// lastUpTo tells the greatest business day of the stretch that is at most day, which lies in it.
func (s stretch) lastUpTo(day int) (int, bool) {
	start := day - s.first
	wanted := ^uint64(0) >> (63 - start%64)
	for i := start / 64; i >= 0; i-- {
		if left := s.words[i] & wanted; left != 0 {
			return s.first + 64*i + bits.Len64(left) - 1, true
		}
		wanted = ^uint64(0)
	}
	return 0, false
}

// adjust moves a day of the whole calendar, which the stretch must be.
func (s stretch) adjust(day int, conv int) (int, api.Errno) {
	if conv == api.Unadjusted {
		return day, api.OK
	}
	if conv != api.Preceding {
		for d := range s.upFrom(day) {
			if conv == api.Following || sameMonth(d, day) {
				return d, api.OK
			}
			break
		}
	}
	if conv != api.Following {
		if d, ok := s.lastUpTo(day); ok {
			return d, api.OK
		}
	}
	return 0, api.ErrRange
}

// sameMonth holds two days of the calendar against each other by their months' first dates.
func sameMonth(a, b int) bool {
	x, _ := Date(a)
	y, _ := Date(b)
	x.D, y.D = 1, 1
	return x == y
}
