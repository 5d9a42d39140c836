package fan

import "sync/atomic"

// none: the number of no scenario.
const none = -1

// search keeps the least number that was found so far, whoever finds it.
type search struct {
	count int64 // beyond all numbers: what least is as long as none was found
	least atomic.Int64
	done  chan struct{} // closed when no number below the least is left to be handed out
}

// leastOf tells the least number below count for which a test holds, or none. It leaves numbers alone that cannot change that.
func leastOf(count, workers int, holds func(int) bool) int {
	s := &search{count: int64(count), done: make(chan struct{})}
	s.least.Store(s.count)
	handOut(count, workers, s.done, func(n int) {
		if int64(n) < s.least.Load() && holds(n) {
			s.found(int64(n))
		}
	})
	if least := s.least.Load(); least < s.count {
		return int(least)
	}
	return none
}

// found lowers the least number. As they are handed out rising, all those below the first that is found are on their way.
func (s *search) found(n int64) {
	for least := s.least.Load(); n < least; least = s.least.Load() {
		if !s.least.CompareAndSwap(least, n) {
			continue
		}
		if least == s.count {
			close(s.done)
		}
		return
	}
}
