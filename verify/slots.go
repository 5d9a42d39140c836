package verify

import "payoff/api"

const (
	pageSlots  = 64
	sheetPages = 16
	sheetSlots = pageSlots * sheetPages
)

// page: which of 64 slots are kept as numbers, and which as truths, a bit each.
type page struct {
	numbers, truths uint64
}

// sheet: never changed once it is in a set, as states that have gone apart share it.
type sheet [sheetPages]page

// slots: those that are surely kept, each with its sort. A sheet that is nil has none. Code may have a hundred thousand jumps over thousands of slots: so a set costs no more than where it differs from the one that it comes from.
type slots [api.MaxSlots / sheetSlots]*sheet

// find tells a slot's sheet, the page there, and its bit on that.
func find(slot int) (int, int, uint64) {
	return slot / sheetSlots, slot % sheetSlots / pageSlots, 1 << (slot % pageSlots)
}

// kept tells the sort with which a slot is kept, or none.
func (s *slots) kept(slot int) sort {
	onSheet, onPage, bit := find(slot)
	if s[onSheet] == nil {
		return none
	}
	there := s[onSheet][onPage]
	switch {
	case there.numbers&bit != 0:
		return number
	case there.truths&bit != 0:
		return truth
	}
	return none
}

// keep adds a slot to the set, in place of what it has been so far.
func (s *slots) keep(slot int, value sort) {
	if s.kept(slot) == value {
		return
	}
	onSheet, onPage, bit := find(slot)
	var changed sheet
	if s[onSheet] != nil {
		changed = *s[onSheet]
	}
	there := changed[onPage]
	if value == number {
		changed[onPage] = page{there.numbers | bit, there.truths &^ bit}
	} else {
		changed[onPage] = page{there.numbers &^ bit, there.truths | bit}
	}
	s[onSheet] = &changed
}

// meet leaves those slots that the other set has, too, with the same sort.
func (s *slots) meet(other slots) {
	if *s == other {
		return
	}
	for n := range s {
		s[n] = common(s[n], other[n])
	}
}

// common: what two sheets both have.
func common(a, b *sheet) *sheet {
	if a == b {
		return a
	}
	if a == nil || b == nil {
		return nil
	}
	var both sheet
	for n := range both {
		both[n] = page{a[n].numbers & b[n].numbers, a[n].truths & b[n].truths}
	}
	// One of the two is shared further, where it will do.
	if both == *a {
		return a
	}
	if both == *b {
		return b
	}
	fresh := both
	return &fresh
}
