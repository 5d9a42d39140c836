package octet

import (
	"bytes"
	"math"

	"payoff/api"
)

const (
	markSize    = 8
	sumSize     = 4
	maxSections = 64
	maxId       = 255
	// leastSealed: the mark, one byte for the number of sections, the checksum.
	leastSealed = markSize + 1 + sumSize
)

// Seal writes sections behind a mark of eight bytes, with a checksum at the end.
func Seal(mark string, sections []api.Section) ([]byte, api.Errno) {
	if len(mark) != markSize {
		return nil, api.ErrArg
	}
	if !sound(sections) {
		return nil, api.ErrSection
	}
	b := AppendUint([]byte(mark), uint64(len(sections)))
	for _, s := range sections {
		b = AppendUint(b, uint64(s.Id))
		b = AppendUint(b, uint64(len(s.Body)))
		b = append(b, s.Body...)
	}
	return append(b, sumBytes(b)...), api.OK
}

// Unseal reads what Seal writes; with an error the place.
func Unseal(mark string, b []byte) ([]api.Section, int, api.Errno) {
	if len(mark) != markSize {
		return nil, 0, api.ErrArg
	}
	if place, e := checkFrame(mark, b); e != api.OK {
		return nil, place, e
	}
	r := Reader{all: b[:len(b)-sumSize], place: markSize}
	sections, place, e := readSections(&r)
	if e != api.OK {
		return nil, place, e
	}
	if r.Left() > 0 {
		return nil, r.Place(), api.ErrExtra
	}
	return sections, 0, api.OK
}

func sound(sections []api.Section) bool {
	if len(sections) > maxSections {
		return false
	}
	ahead := 0
	for _, s := range sections {
		if s.Id <= ahead || s.Id > maxId {
			return false
		}
		ahead = s.Id
	}
	return true
}

// sumBytes gives the checksum of b as it stands behind b.
func sumBytes(b []byte) []byte {
	sum := Crc(b)
	return []byte{byte(sum), byte(sum >> 8), byte(sum >> 16), byte(sum >> 24)}
}

// checkFrame looks at what stands around the sections: the mark and the checksum.
func checkFrame(mark string, b []byte) (int, api.Errno) {
	for i := range min(len(b), markSize) {
		if b[i] != mark[i] {
			return i, api.ErrMagic
		}
	}
	if len(b) < leastSealed {
		return len(b), api.ErrShort
	}
	end := len(b) - sumSize
	if !bytes.Equal(b[end:], sumBytes(b[:end])) {
		return end, api.ErrSum
	}
	return 0, api.OK
}

func readSections(r *Reader) ([]api.Section, int, api.Errno) {
	place := r.Place()
	count, e := r.Uint(math.MaxUint64)
	if e != api.OK {
		return nil, refusedAt(r, e), e
	}
	if count > maxSections {
		return nil, place, api.ErrSection
	}
	sections, ahead := make([]api.Section, count), 0
	for i := range sections {
		s, place, e := readSection(r, ahead)
		if e != api.OK {
			return nil, place, e
		}
		sections[i], ahead = s, s.Id
	}
	return sections, 0, api.OK
}

// readSection reads the section that stands behind one with the Id ahead (0: it is the first).
func readSection(r *Reader, ahead int) (api.Section, int, api.Errno) {
	place := r.Place()
	id, e := r.Uint(math.MaxUint64)
	if e != api.OK {
		return api.Section{}, refusedAt(r, e), e
	}
	if id <= uint64(ahead) || id > maxId {
		return api.Section{}, place, api.ErrSection
	}
	size, e := r.Uint(math.MaxUint64)
	// A length beyond the numbers cannot be asked of Take; it is short like any other that is too great.
	if e == api.OK && size > uint64(r.Left()) {
		e = api.ErrShort
	}
	if e != api.OK {
		return api.Section{}, refusedAt(r, e), e
	}
	body, e := r.Take(int(size))
	return api.Section{Id: int(id), Body: body}, 0, e
}

// refusedAt tells the place of an error of the reader, which stays at the varint that it refuses: what ends too early goes wrong at the end.
func refusedAt(r *Reader, e api.Errno) int {
	if e == api.ErrShort {
		return r.Place() + r.Left()
	}
	return r.Place()
}
