package book

import (
	"iter"
	"slices"

	"payoff/api"
	"payoff/image"
	"payoff/octet"
	"payoff/save"
)

// Kinds of records. Those from the head on stand in a group.
const (
	kindTaken = iota + 1
	kindDropped
	kindDay
	kindHead
	kindPosition
	kindEntries
	kindTail
)

// perRecord is how many entries a record of a group has, as long as there are so many.
const perRecord = 4096

// note journals a record. One that a call makes is never too long: it is refused only if the journal has no room.
func (b *Book) note(kind int, body []byte) api.Errno {
	return b.journal.Append(api.Record{Kind: kind, Body: body})
}

func takenBody(name string, image []byte) []byte {
	return octet.AppendText(octet.AppendText(nil, name), string(image))
}

func droppedBody(name string) []byte {
	return octet.AppendText(nil, name)
}

func dayBody(known []api.Pair) []byte {
	body := appendNumbers(nil, len(known))
	for _, pair := range known {
		body = octet.AppendInt(octet.AppendText(body, pair.Name), pair.V)
	}
	return body
}

func appendNumbers(body []byte, numbers ...int) []byte {
	for _, x := range numbers {
		body = octet.AppendUint(body, uint64(x))
	}
	return body
}

// group gives the records that say the whole book, one by one; with an error there is none that is short enough.
func (b *Book) group() iter.Seq2[api.Record, api.Errno] {
	return func(yield func(api.Record, api.Errno) bool) {
		if !yield(b.headRecord(), api.OK) {
			return
		}
		for _, p := range b.positions {
			if !yield(p.record()) {
				return
			}
		}
		for entries := range slices.Chunk(b.ledger, perRecord) {
			if !yield(b.entriesRecord(entries), api.OK) {
				return
			}
		}
		yield(api.Record{Kind: kindTail}, api.OK)
	}
}

func (b *Book) headRecord() api.Record {
	return api.Record{Kind: kindHead, Body: appendNumbers(nil, b.today, len(b.positions), len(b.ledger))}
}

func (p *position) record() (api.Record, api.Errno) {
	isDropped := 0
	if p.dropped {
		isDropped = 1
	}
	var program, state []byte
	if p.goesOn() {
		var e api.Errno
		// The program came out of an image, so that it has one.
		program, _ = image.Encode(p.run.program)
		state, e = save.Freeze(p.run.program, p.run.machine)
		if e != api.OK {
			return api.Record{}, e
		}
	}
	body := appendNumbers(octet.AppendText(nil, p.Name), p.Since, p.State, int(p.Fault), p.Day, isDropped)
	body = octet.AppendText(octet.AppendText(body, string(program)), string(state))
	return api.Record{Kind: kindPosition, Body: body}, api.OK
}

func (b *Book) entriesRecord(entries []api.Entry) api.Record {
	body := appendNumbers(nil, len(entries))
	for _, entry := range entries {
		body = appendNumbers(body, entry.Day, b.numbers[entry.Name])
		body = octet.AppendInt(octet.AppendText(body, entry.Cur), entry.Amount)
	}
	return api.Record{Kind: kindEntries, Body: body}
}
