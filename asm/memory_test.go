package asm_test

import (
	"math/rand"
	"reflect"
	"slices"
	"strings"
	"sync"
	"testing"
	"unsafe"

	"payoff/api"
	"payoff/asm"
	"payoff/image"
	"payoff/sample"
)

// spare gives a list spare room, with something in it.
func spare[T any](list []T, mark T) []T {
	return append(append(make([]T, 0, len(list)+2), list...), mark, mark)[:len(list)]
}

// whole: a list with its spare room.
func whole[T any](list []T) []T { return list[:cap(list)] }

// overwrite puts a value all over a list and its spare room.
func overwrite[T any](list []T, value T) {
	for k := range whole(list) {
		whole(list)[k] = value
	}
}

// roomy: a program with spare room in all lists.
func roomy(p api.Program) api.Program {
	p.Names, p.Curs, p.Pool = spare(p.Names, "n"), spare(p.Curs, "c"), spare(p.Pool, 77)
	p.Days = spare(p.Days, api.Segment{Day: 78, Code: []api.Instr{{Op: 79}}})
	for k := range p.Days {
		p.Days[k].Code = spare(p.Days[k].Code, api.Instr{Op: 80})
	}
	return p
}

// widened: a copy of a program, the spare room of its lists being a part of them.
func widened(p api.Program) api.Program {
	p.Names, p.Curs, p.Pool, p.Days = slices.Clone(whole(p.Names)), slices.Clone(whole(p.Curs)), slices.Clone(whole(p.Pool)), slices.Clone(whole(p.Days))
	for k := range p.Days {
		p.Days[k].Code = slices.Clone(whole(p.Days[k].Code))
	}
	return p
}

// ruin overwrites all lists of a program.
func ruin(p api.Program) {
	for _, s := range p.Days {
		overwrite(s.Code, api.Instr{Op: 81})
	}
	overwrite(p.Names, "ruin")
	overwrite(p.Curs, "ruin")
	overwrite(p.Pool, 82)
	overwrite(p.Days, api.Segment{Day: 83})
}

// P1306: what is handed in stays as it is, taken or refused; answers share no memory with each other.
func TestMemory(t *testing.T) {
	chance := rand.New(rand.NewSource(136))
	for turn := range 4000 {
		p := sample.Program(chance.Intn)
		if turn%2 == 1 {
			spoil(chance, &p)
		}
		p = roomy(p)
		before := widened(p)
		text, e := asm.Print(p)
		for _, s := range p.Days {
			for _, i := range s.Code {
				asm.PrintInstr(p, i)
			}
		}
		if !reflect.DeepEqual(widened(p), before) {
			t.Fatalf("what was given has changed")
		}
		if e != api.OK {
			continue
		}
		one, _, _ := asm.Parse(text)
		two, _, _ := asm.Parse(text)
		ruin(two)
		if !image.Equal(one, p) {
			t.Fatalf("two answers share memory")
		}
	}
}

// stretch: the addresses from the first byte of something's memory to the first one behind it.
type stretch [2]uintptr

// room: a list's memory, spare room included.
func room[T any](list []T) stretch {
	var one T
	from := uintptr(unsafe.Pointer(unsafe.SliceData(list)))
	return stretch{from, from + uintptr(cap(list))*unsafe.Sizeof(one)}
}

func roomOfText(s string) stretch {
	from := uintptr(unsafe.Pointer(unsafe.StringData(s)))
	return stretch{from, from + uintptr(len(s))}
}

// P1306: no two lists of an answer share memory, spare room included, and no name is a piece of the text.
func TestApart(t *testing.T) {
	chance := rand.New(rand.NewSource(137))
	for range 2000 {
		text, _ := asm.Print(sample.Program(chance.Intn))
		p, _, _ := asm.Parse(text)
		rooms := []stretch{roomOfText(text), room(p.Names), room(p.Curs), room(p.Pool), room(p.Days)}
		for _, s := range p.Days {
			rooms = append(rooms, room(s.Code))
		}
		for _, s := range slices.Concat(p.Names, p.Curs) {
			rooms = append(rooms, roomOfText(s))
		}
		rooms = slices.DeleteFunc(rooms, func(r stretch) bool { return r[0] == r[1] })
		slices.SortFunc(rooms, func(a, b stretch) int { return slices.Compare(a[:], b[:]) })
		for k := 1; k < len(rooms); k++ {
			if rooms[k][0] < rooms[k-1][1] {
				t.Fatalf("two parts share memory: %v", rooms)
			}
		}
	}
}

// P1306: calls side by side answer as one behind the other.
func TestSideBySide(t *testing.T) {
	p := example()
	wrong := strings.Replace(exampleText, "const 5", "const 6", 1)
	workers := sync.WaitGroup{}
	for range 16 {
		workers.Go(func() {
			for range 200 {
				wantPrint(t, p, exampleText, api.OK)
				wantParse(t, exampleText, p)
				wantRefused(t, wrong, 10, api.ErrLine)
				wantInstr(t, p, api.Instr{Op: api.OpFlow}, "flow EUR", api.OK)
			}
		})
	}
	workers.Wait()
}
