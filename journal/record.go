package journal

import (
	"payoff/api"
	"payoff/octet"
)

const (
	// recordMark is the byte that each record begins with.
	recordMark = 0xA7
	maxKind    = 255
	sumSize    = 4
)

// leadOf gives what stands ahead of a record's Body.
func leadOf(number int, r api.Record) []byte {
	lead := append(startOf(number), byte(r.Kind))
	return octet.AppendUint(lead, uint64(len(r.Body)))
}

// startOf gives what the record of a number begins with. A number has one form alone, so this can also be looked for.
func startOf(number int) []byte {
	return octet.AppendUint([]byte{recordMark}, uint64(number))
}

// sumOf gives the checksum of b as it stands behind b.
func sumOf(b []byte) []byte {
	sum := octet.Crc(b)
	return []byte{byte(sum), byte(sum >> 8), byte(sum >> 16), byte(sum >> 24)}
}

// passRecord moves behind the record of that number, if it stands there whole; else the place stays. It tells the place.
func (c *cursor) passRecord(number int) (place int) {
	from, whole := c.place, false
	defer func() {
		if !whole {
			c.place = from
		}
		place = c.place
	}()
	if _, there := c.passBody(number); !there {
		return
	}
	whole = c.passThese(sumOf(c.all[from:c.place]))
	return
}

// passBody moves behind the Body of the record of that number, ahead of its checksum, for which it does not ask. The Body that it gives is the cursor's own memory.
func (c *cursor) passBody(number int) (api.Record, bool) {
	if !c.passThese(startOf(number)) {
		return api.Record{}, false
	}
	kind, there := c.passSome(1)
	if !there || kind[0] == 0 {
		return api.Record{}, false
	}
	size, there := c.passNumber(api.MaxRecord)
	if !there {
		return api.Record{}, false
	}
	body, there := c.passSome(size)
	return api.Record{Kind: int(kind[0]), Body: body}, there
}
