package asm_test

import (
	"fmt"
	"math"
	"math/rand"
	"slices"
	"strings"
	"testing"

	"payoff/api"
	"payoff/asm"
	"payoff/image"
	"payoff/sample"
)

// P1301, P1302, P1304, P1305: programs by chance, their texts, and these cut somewhere.
func TestPrograms(t *testing.T) {
	t.Parallel()
	chance := rand.New(rand.NewSource(131))
	for range 5000 {
		p := sample.Program(chance.Intn)
		holdPrint(t, p)
		text, _ := asm.Print(p)
		holdParse(t, text[:chance.Intn(len(text))])
		if t.Failed() {
			return
		}
	}
}

// spoil changes a number of a program, or takes a part of a list away.
func spoil(chance *rand.Rand, p *api.Program) {
	numbers := []*int{&p.Horizon, &p.Cells, &p.Slots, &p.Stack}
	for k := range p.Pool {
		numbers = append(numbers, &p.Pool[k])
	}
	for k := range p.Days {
		numbers = append(numbers, &p.Days[k].Day)
		for n := range p.Days[k].Code {
			i := &p.Days[k].Code[n]
			numbers = append(numbers, &i.Op, &i.A, &i.B)
		}
	}
	x := numbers[chance.Intn(len(numbers))]
	switch chance.Intn(8) {
	case 0:
		p.Names = p.Names[:max(len(p.Names)-1, 0)]
	case 1:
		p.Curs = p.Curs[:max(len(p.Curs)-1, 0)]
	case 2:
		p.Pool = p.Pool[:max(len(p.Pool)-1, 0)]
	case 3:
		slices.Reverse(p.Days)
	default:
		*x = []int{*x + 1, *x - 1, 0, 1, math.MinInt, math.MaxInt, -*x}[chance.Intn(7)]
	}
}

// P1301, P1303: programs with something changed, most of which are not in their one form; each of their instructions is printed, or refused.
func TestSpoiltPrograms(t *testing.T) {
	t.Parallel()
	chance := rand.New(rand.NewSource(132))
	told := map[api.Errno]int{}
	for range 20000 {
		p := sample.Program(chance.Intn)
		spoil(chance, &p)
		holdPrint(t, p)
		told[image.Canon(p)]++
		for _, s := range p.Days {
			for _, i := range s.Code {
				want, e := plainPrintInstr(p, i)
				wantInstr(t, p, i, want, e)
				told[e]++
			}
		}
		if t.Failed() {
			return
		}
	}
	for _, e := range []api.Errno{api.OK, api.ErrCanon, api.ErrOp, api.ErrRange} {
		if told[e] < 300 {
			t.Errorf("the answer %d came %d times", e, told[e])
		}
	}
}

// blanks: some, at least as many as least.
func blanks(chance *rand.Rand, least int) string {
	var b strings.Builder
	for range least + chance.Intn(3) {
		b.WriteByte(" \t\r"[chance.Intn(3)])
	}
	return b.String()
}

// comment: one, or none.
func comment(chance *rand.Rand) string {
	return []string{"", "", "", ";", "; a comment", ";end", " ;; day 3 \t", ";\xff\x00\u00e4\r"}[chance.Intn(8)]
}

// loosened writes a text with blanks, empty lines and comments put in, and tells the new numbers of its lines.
func loosened(chance *rand.Rand, text string) (string, []int) {
	var list []string
	var numbers []int
	for _, line := range plainLines(text) {
		for chance.Intn(4) == 0 {
			list = append(list, blanks(chance, 0)+comment(chance))
		}
		var b strings.Builder
		b.WriteString(blanks(chance, 0))
		for _, word := range strings.Fields(line) {
			b.WriteString(word + blanks(chance, 1))
		}
		loose := b.String()
		if chance.Intn(2) == 0 {
			loose = strings.TrimRight(loose, " \t\r")
		}
		list = append(list, loose+comment(chance))
		numbers = append(numbers, len(list))
	}
	if chance.Intn(2) == 0 {
		list = append(list, comment(chance))
	}
	return strings.Join(list, "\n"), numbers
}

// P1304: blanks more, empty lines and comments change nothing.
func TestLoosened(t *testing.T) {
	t.Parallel()
	chance := rand.New(rand.NewSource(133))
	for range 10000 {
		p := sample.Program(chance.Intn)
		text, _ := asm.Print(p)
		loose, _ := loosened(chance, text)
		wantParse(t, loose, p)
		holdParse(t, loose)
		if t.Failed() {
			return
		}
	}
}

// spoiltLines changes something in a text's lines.
func spoiltLines(chance *rand.Rand, text string) string {
	list := plainLines(text)
	at, to := chance.Intn(len(list)), chance.Intn(len(list))
	switch chance.Intn(5) {
	case 0:
		list = slices.Delete(list, at, at+1)
	case 1:
		list = slices.Insert(list, to, list[at])
	case 2:
		list[at], list[to] = list[to], list[at]
	default:
		// What a line without words takes from another is one.
		words, other := append(strings.Fields(list[at]), ""), append(strings.Fields(list[to]), "")
		word := chance.Intn(len(words))
		words[word] = []string{words[chance.Intn(len(words))], other[chance.Intn(len(other))], "0", "1", "-1", "A", "EUR", "names", "day", "end", "load", "obs", "flow", "ratio", "ceil", fmt.Sprint(chance.Intn(40000)), ""}[chance.Intn(17)]
		list[at] = strings.Join(words, " ")
	}
	return strings.Join(list, "\n")
}

// P1302, P1304: texts with lines and words changed; and with blanks, empty lines and comments put in, the same is told of the line that was moved by them.
func TestSpoiltLines(t *testing.T) {
	t.Parallel()
	chance := rand.New(rand.NewSource(134))
	told := map[api.Errno]int{}
	for range 40000 {
		text, _ := asm.Print(sample.Program(chance.Intn))
		for range 1 + chance.Intn(2) {
			text = spoiltLines(chance, text)
		}
		told[holdParse(t, text)]++
		p, line, e := asm.Parse(text)
		loose, numbers := loosened(chance, text)
		moved, at, looseError := asm.Parse(loose)
		if line > 0 && line <= len(numbers) {
			line = numbers[line-1]
		} else if line > 0 {
			line = len(plainLines(loose)) + 1
		}
		if !image.Equal(moved, p) || at != line || looseError != e {
			t.Errorf("Parse(%q) = %d, %d, want %d, %d", loose, at, looseError, line, e)
		}
		if t.Failed() {
			return
		}
	}
	for _, e := range []api.Errno{api.OK, api.ErrLine, api.ErrCanon} {
		if told[e] < 1000 {
			t.Errorf("the answer %d came %d times", e, told[e])
		}
	}
}

// P1302, P1306: texts with bytes changed, and texts of bytes by chance.
func TestSpoiltBytes(t *testing.T) {
	t.Parallel()
	chance := rand.New(rand.NewSource(135))
	for range 40000 {
		text, _ := asm.Print(sample.Program(chance.Intn))
		for range 1 + chance.Intn(2) {
			at := chance.Intn(len(text))
			to := min(len(text), at+chance.Intn(3))
			put := []string{"", "\n", " ", "-", "0", "1", ";", "A", "\x00", "\xff", string(rune(chance.Intn(0x3000)))}[chance.Intn(11)]
			text = text[:at] + put + text[to:]
		}
		holdParse(t, text)
		if t.Failed() {
			return
		}
	}
	letters := "\n\n \t\r;-01289namescurspolhizdykAEUR\x00\xff"
	for range 40000 {
		b := make([]byte, chance.Intn(40))
		for k := range b {
			b[k] = letters[chance.Intn(len(letters))]
		}
		holdParse(t, string(b))
		holdParse(t, emptyText+string(b))
		if t.Failed() {
			return
		}
	}
}
