package image_test

import (
	"bytes"
	"slices"
	"strings"
	"testing"

	"payoff/api"
	"payoff/image"
	"payoff/octet"
)

// The examples of the chapter.

// example: the chapter's p.
func example() api.Program {
	return api.Program{Names: []string{"S"}, Curs: []string{"EUR"}, Pool: []int{-1, 5}, Horizon: 3, Stack: 2, Days: []api.Segment{
		{Day: 1, Code: []api.Instr{{Op: api.OpObs, B: 1}, {Op: api.OpConst}, {Op: api.OpMul}, {Op: api.OpFlow}, {Op: api.OpEnd}}},
		{Day: 3, Code: []api.Instr{{Op: api.OpConst, A: 1}, {Op: api.OpFlow}, {Op: api.OpEnd}}},
	}}
}

// with: the example, changed.
func with(change func(p *api.Program)) api.Program {
	p := example()
	change(&p)
	return p
}

// shown cuts what a message shows, as lists may be long.
func shown[T any](list []T) []T { return list[:min(len(list), 80)] }

func wantCanon(t *testing.T, what string, p api.Program, e api.Errno) {
	t.Helper()
	if err := image.Canon(p); err != e {
		t.Errorf("%s: Canon = %d, want %d", what, err, e)
	}
}

func wantBytes(t *testing.T, p api.Program, want []byte, e api.Errno) {
	t.Helper()
	if got, err := image.Encode(p); !bytes.Equal(got, want) || err != e {
		t.Errorf("Encode = % x (%d bytes), %d, want % x (%d bytes), %d", shown(got), len(got), err, shown(want), len(want), e)
	}
}

func wantRead(t *testing.T, b []byte, want api.Program, place int, e api.Errno) {
	t.Helper()
	if got, at, err := image.Decode(b); !plainEqual(got, want) || at != place || err != e {
		t.Errorf("Decode(% x (%d bytes)) = %d, %d (the program as wanted: %t), want %d, %d", shown(b), len(b), at, err, plainEqual(got, want), place, e)
	}
}

// wantRefused: Decode's error and place, and no program.
func wantRefused(t *testing.T, b []byte, place int, e api.Errno) {
	t.Helper()
	wantRead(t, b, api.Program{}, place, e)
}

func wantEqual(t *testing.T, what string, a, b api.Program, want bool) {
	t.Helper()
	if got := image.Equal(a, b); got != want {
		t.Errorf("%s: Equal = %t", what, got)
	}
	if got := image.Equal(b, a); got != want {
		t.Errorf("%s: Equal the other way about = %t", what, got)
	}
}

// P1201.
func TestExample1(t *testing.T) {
	wantCanon(t, "p", example(), api.OK)
	for what, change := range map[string]func(p *api.Program){
		"Pool [5, -1]":     func(p *api.Program) { p.Pool = []int{5, -1} },
		"Pool [-1, 5, 6]":  func(p *api.Program) { p.Pool = []int{-1, 5, 6} },
		"Pool [-1, -1]":    func(p *api.Program) { p.Pool = []int{-1, -1} },
		"Names [S, T]":     func(p *api.Program) { p.Names = []string{"S", "T"} },
		"Horizon 2":        func(p *api.Program) { p.Horizon = 2 },
		"no end":           func(p *api.Program) { p.Days[0].Code = p.Days[0].Code[:4] },
		"two ends":         func(p *api.Program) { p.Days[0].Code = append(p.Days[0].Code, api.Instr{}) },
		"Day 3 ahead of 1": func(p *api.Program) { slices.Reverse(p.Days) },
		"a day of an end":  func(p *api.Program) { p.Days[1].Code = []api.Instr{{}} },
		"one more, of an end": func(p *api.Program) {
			p.Days[0].Day, p.Days = 0, append(p.Days, api.Segment{Day: 1, Code: []api.Instr{{}}})
		},
	} {
		wantCanon(t, what, with(change), api.ErrCanon)
		wantBytes(t, with(change), nil, api.ErrCanon)
	}
	wantCanon(t, "the zero program", api.Program{}, api.OK)
}

// head: what the image of p begins with, as the chapter says it.
const head = "PAYOFF1\n\x05\x01\x03\x01\x01S\x02\x05\x01\x03EUR\x03\x03\x02\x01\x05\x04\x04\x03\x00\x00\x02"

// P1202: and section 5 by the words of the chapter.
func TestExample2(t *testing.T) {
	days := "\x02\x01\x05\x09\x03\x00\x01\x01\x00\x0b\x1c\x00\x00\x01\x03\x05\x01\x01\x1c\x00\x00"
	body := head + "\x05" + string(rune(len(days))) + days
	sum := octet.Crc([]byte(body))
	want := append([]byte(body), byte(sum), byte(sum>>8), byte(sum>>16), byte(sum>>24))
	wantBytes(t, example(), want, api.OK)
	wantRead(t, want, example(), 0, api.OK)
	wantBytes(t, api.Program{}, plainSeal("\x00", "\x00", "\x00", "\x00\x00\x00\x00", "\x00"), api.OK)
}

// replaced: the image of p, one of whose sections has another body; and the place of that body.
func replaced(p api.Program, section int, body string) ([]byte, int) {
	bodies := plainBodies(p)
	bodies[section-1] = body
	b := plainSeal(bodies...)
	at := 9
	for k, s := range bodies[:section] {
		at += 1 + len(plainUint(len(s)))
		if k < section-1 {
			at += len(s)
		}
	}
	return b, at
}

// P1203.
func TestExample3(t *testing.T) {
	b, _ := image.Encode(example())
	wantRefused(t, b[:len(b)-1], len(b)-5, api.ErrSum)
	b, at := replaced(example(), 3, "\x02\x01\x05\x00")
	wantRefused(t, b, at+3, api.ErrExtra)
	b, at = replaced(example(), 1, "\x41")
	wantRefused(t, b, at, api.ErrVarint)
	wantRefused(t, b, 11, api.ErrVarint)
	b, _ = replaced(example(), 1, "\x02\x01T\x01S")
	wantRefused(t, b, 0, api.ErrCanon)
}

// P1202, P1203.
func TestExample4(t *testing.T) {
	p := with(func(p *api.Program) { p.Pool = []int{-9223372036854775808, 9223372036854775807} })
	b, e := image.Encode(p)
	if gap := "\xfe\xff\xff\xff\xff\xff\xff\xff\xff\x01"; e != api.OK || !strings.Contains(string(b), "\x01"+gap+"\x04") {
		t.Errorf("Encode = % x, %d", b, e)
	}
	wantRead(t, b, p, 0, api.OK)
}

// P1205.
func TestExample5(t *testing.T) {
	wantEqual(t, "p and p", example(), example(), true)
	wantEqual(t, "p without days", with(func(p *api.Program) { p.Days = nil }), example(), false)
	wantEqual(t, "empty lists", api.Program{}, api.Program{Names: []string{}, Curs: []string{}, Pool: []int{}, Days: []api.Segment{}}, true)
}
