package book

import (
	"payoff/api"
	"payoff/journal"
)

// opener reads a record's body, and does what it says. It tells whether that could be done.
type opener func(r *reader) bool

// opening: a book that is brought along by a journal's records.
type opening struct {
	*Book
	isGrouped                  bool // a group has begun, and has not come to its end
	positionsLeft, entriesLeft int  // of the group
}

// playedBack gives the book that a journal tells, up to the first record that does not count.
func playedBack(found *journal.Journal) *Book {
	o := &opening{Book: New()}
	openers := o.openers()
	for n := range found.Count() {
		r, _ := found.Record(n)
		open, known := openers[r.Kind]
		if !known || !o.mayCome(r.Kind) || !open(newReader(r.Body)) {
			break
		}
		// A call has journalled its record anew.
		if r.Kind >= kindHead {
			o.note(r.Kind, r.Body)
		}
	}
	if o.isGrouped {
		return New()
	}
	return o.Book
}

// openers tells what opens the records of each kind: of one that a call has journalled, that call.
func (o *opening) openers() map[int]opener {
	return map[int]opener{
		kindTaken:    asTaken(o.Add),
		kindDropped:  asDropped(o.Drop),
		kindDay:      asDay(o.Day),
		kindHead:     o.head,
		kindPosition: o.position,
		kindEntries:  o.entries,
		kindTail:     o.tail,
	}
}

// mayCome tells whether a record of that kind may be the next.
func (o *opening) mayCome(kind int) bool {
	switch {
	case !o.isGrouped:
		return kind < kindHead || kind == kindHead && o.journal.Count() == 0
	case o.positionsLeft > 0:
		return kind == kindPosition
	case o.entriesLeft > 0:
		return kind == kindEntries
	}
	return kind == kindTail
}

func asTaken(add func(name string, image []byte) api.Errno) opener {
	return func(r *reader) bool {
		name, image := r.text(), r.text()
		return r.ended() && add(name, []byte(image)) == api.OK
	}
}

func asDropped(drop func(name string) api.Errno) opener {
	return func(r *reader) bool {
		name := r.text()
		return r.ended() && drop(name) == api.OK
	}
}

func asDay(day func(known []api.Pair) ([]api.Entry, api.Errno)) opener {
	return func(r *reader) bool {
		var known []api.Pair
		for left := r.number(api.MaxRecord); left > 0 && !r.wrong; left-- {
			name := r.text()
			known = append(known, api.Pair{Name: name, V: r.value()})
		}
		if !r.ended() {
			return false
		}
		_, e := day(known)
		return e == api.OK
	}
}
