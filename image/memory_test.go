package image_test

import (
	"bytes"
	"math/rand"
	"slices"
	"sync"
	"testing"
	"unsafe"

	"payoff/api"
	"payoff/image"
	"payoff/sample"
)

// spare gives a list spare room, with something in it.
func spare[T any](list []T, mark T) []T {
	return append(append(make([]T, 0, len(list)+2), list...), mark, mark)[:len(list)]
}

// whole: a list with its spare room.
func whole[T any](list []T) []T { return list[:cap(list)] }

// overwrite puts a value all over a list and its spare room.
func overwrite[T any](list []T, value T) {
	for k := range whole(list) {
		whole(list)[k] = value
	}
}

// roomy: a program with spare room in all lists.
func roomy(p api.Program) api.Program {
	p.Names, p.Curs, p.Pool = spare(p.Names, "n"), spare(p.Curs, "c"), spare(p.Pool, 77)
	p.Days = spare(p.Days, api.Segment{Day: 78, Code: []api.Instr{{Op: 79}}})
	for k := range p.Days {
		p.Days[k].Code = spare(p.Days[k].Code, api.Instr{Op: 80})
	}
	return p
}

// widened: a copy of a program, the spare room of its lists being a part of them.
func widened(p api.Program) api.Program {
	p.Names, p.Curs, p.Pool, p.Days = slices.Clone(whole(p.Names)), slices.Clone(whole(p.Curs)), slices.Clone(whole(p.Pool)), slices.Clone(whole(p.Days))
	for k := range p.Days {
		p.Days[k].Code = slices.Clone(whole(p.Days[k].Code))
	}
	return p
}

// ruin overwrites all lists of a program.
func ruin(p api.Program) {
	for _, s := range p.Days {
		overwrite(s.Code, api.Instr{Op: 81})
	}
	overwrite(p.Names, "ruin")
	overwrite(p.Curs, "ruin")
	overwrite(p.Pool, 82)
	overwrite(p.Days, api.Segment{Day: 83})
}

// room: the addresses from the first byte of a list's memory to the first one behind its spare room.
func room[T any](list []T) [2]uintptr {
	var one T
	from := uintptr(unsafe.Pointer(unsafe.SliceData(list)))
	return [2]uintptr{from, from + uintptr(cap(list))*unsafe.Sizeof(one)}
}

// P1206: no two lists of an answer share memory, spare room included.
func TestListsApart(t *testing.T) {
	chance := rand.New(rand.NewSource(125))
	for range 2000 {
		b, _ := image.Encode(sample.Program(chance.Intn))
		p, _, _ := image.Decode(b)
		rooms := [][2]uintptr{room(p.Names), room(p.Curs), room(p.Pool), room(p.Days)}
		for _, s := range p.Days {
			rooms = append(rooms, room(s.Code))
		}
		rooms = slices.DeleteFunc(rooms, func(r [2]uintptr) bool { return r[0] == r[1] })
		slices.SortFunc(rooms, func(a, b [2]uintptr) int { return slices.Compare(a[:], b[:]) })
		for k := 1; k < len(rooms); k++ {
			if rooms[k][0] < rooms[k-1][1] {
				t.Fatalf("two lists share memory: %v", rooms)
			}
		}
	}
}

// P1206: what is handed in stays as it is, and each answer is memory of its own.
func TestMemory(t *testing.T) {
	chance := rand.New(rand.NewSource(126))
	for range 2000 {
		p := roomy(sample.Program(chance.Intn))
		before := widened(p)
		first, e := image.Encode(p)
		second, _ := image.Encode(p)
		want := bytes.Clone(first)
		overwrite(second, 0xee)
		if e != api.OK || image.Canon(p) != api.OK || !image.Equal(p, p) || !plainEqual(widened(p), before) || !bytes.Equal(first, want) {
			t.Fatalf("Encode: what it was given has changed, or two answers share memory")
		}
		b := spare(first, 0x55)
		bytesBefore := bytes.Clone(whole(b))
		one, _, _ := image.Decode(b)
		two, _, _ := image.Decode(b)
		ruin(two)
		if !plainEqual(one, p) || !bytes.Equal(whole(b), bytesBefore) {
			t.Fatalf("Decode: what it was given has changed, or two answers share memory")
		}
		overwrite(b, 0)
		if !plainEqual(one, p) {
			t.Fatalf("Decode shares memory with what it was given")
		}
		ruin(p)
		if !bytes.Equal(first, want) {
			t.Fatalf("Encode shares memory with what it was given")
		}
	}
}

// P1206: what is refused is not changed either.
func TestMemoryOfRefused(t *testing.T) {
	chance := rand.New(rand.NewSource(127))
	for range 3000 {
		p := sample.Program(chance.Intn)
		spoil(chance, &p)
		p = roomy(p)
		before := widened(p)
		image.Canon(p)
		image.Encode(p)
		image.Equal(p, example())
		if !plainEqual(widened(p), before) {
			t.Fatalf("what was given has changed")
		}
		bodies := plainBodies(sample.Program(chance.Intn))
		bodies[chance.Intn(5)] += "\x00"
		b := spare(plainSeal(bodies...), 0x55)
		bytesBefore := bytes.Clone(whole(b))
		image.Decode(b)
		if !bytes.Equal(whole(b), bytesBefore) {
			t.Fatalf("what was given has changed")
		}
	}
}

// P1206: calls side by side answer as one behind the other.
func TestSideBySide(t *testing.T) {
	p := example()
	b, _ := image.Encode(p)
	refused, at := replaced(p, 3, "\x02\x01\x05\x00")
	workers := sync.WaitGroup{}
	for range 16 {
		workers.Go(func() {
			for range 200 {
				wantCanon(t, "p", p, api.OK)
				wantBytes(t, p, b, api.OK)
				wantRead(t, b, p, 0, api.OK)
				wantRefused(t, refused, at+3, api.ErrExtra)
				wantEqual(t, "p and p", p, p, true)
			}
		})
	}
	workers.Wait()
}
