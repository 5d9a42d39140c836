package save

import (
	"payoff/api"
	"payoff/image"
	"payoff/octet"
)

// The sections' numbers.
const (
	ownerId = iota + 1
	courseId
	cellsId
	pastId

	sectionCount = pastId
)

// What stands ahead of a cell of a row.
const (
	isMissing = 0
	isSeen    = 1
)

// sumSize is how many bytes a checksum has.
const sumSize = 4

// sectionsOf: what is written of a state of a program.
func sectionsOf(p api.Program, s api.State) []api.Section {
	return []api.Section{
		{Id: ownerId, Body: markOf(p)},
		{Id: courseId, Body: courseOf(s)},
		{Id: cellsId, Body: cellsOf(s)},
		{Id: pastId, Body: pastOf(s)},
	}
}

// areOurs tells whether sections are just those that are written.
func areOurs(sealed []api.Section) bool {
	for i, s := range sealed {
		if s.Id != ownerId+i {
			return false
		}
	}
	return len(sealed) == sectionCount
}

// markOf tells a program's mark: the checksum of its image. The program is right, so that it has one.
func markOf(p api.Program) []byte {
	b, _ := image.Encode(p)
	return b[len(b)-sumSize:]
}

func courseOf(s api.State) []byte {
	var b []byte
	for _, x := range [...]int{s.Today, s.Steps, int(s.Fault), s.Day} {
		b = octet.AppendUint(b, uint64(x))
	}
	return b
}

func cellsOf(s api.State) []byte {
	var b []byte
	for _, v := range s.Cells {
		b = octet.AppendInt(b, v)
	}
	return b
}

func pastOf(s api.State) []byte {
	var b []byte
	for _, row := range s.Past {
		for _, c := range row {
			if c.Has {
				b = octet.AppendInt(append(b, isSeen), c.V)
			} else {
				b = append(b, isMissing)
			}
		}
	}
	return b
}
