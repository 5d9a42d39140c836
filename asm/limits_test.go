package asm_test

import (
	"math"
	"slices"
	"strings"
	"testing"

	"payoff/api"
	"payoff/asm"
)

const most = 1 << 24

// P1302: texts of 2^24 bytes are read, longer ones are not, whatever they say.
func TestLongest(t *testing.T) {
	for _, c := range []struct {
		text, fill, end string
		line            int
	}{
		{exampleText, " ", "\n", 0}, {exampleText, ";", "", 0}, {exampleText, "\n", "", 0}, {exampleText, "\r\n", "", 0},
		{"", "\n", exampleText, 0}, {"", " ", exampleText, 0}, {"", " ", "mul", 1},
	} {
		room := most - len(c.text) - len(c.end)
		for more := -1; more < 3; more++ {
			filled := c.text + strings.Repeat(c.fill, room+more)[:room+more] + c.end
			if len(filled) != most+more {
				t.Fatalf("%d bytes", len(filled))
			}
			switch {
			case more > 0:
				wantRefused(t, filled, 0, api.ErrLong)
			case c.line > 0:
				wantRefused(t, filled, c.line, api.ErrLine)
			default:
				wantParse(t, filled, example())
			}
		}
	}
	wantRefused(t, strings.Repeat("\n", most), most+1, api.ErrLine)
	wantRefused(t, strings.Repeat("\n", most+1), 0, api.ErrLong)
	wantRefused(t, strings.Repeat("x", most), 1, api.ErrLine)
	wantRefused(t, strings.Repeat("9", most), 1, api.ErrLine)
}

// P1302: long lists and much code are read to their end; that they are too long is told when all is read.
func TestLongLists(t *testing.T) {
	filled := func(ahead, fill, end string) string {
		return ahead + strings.Repeat(fill, (most/8-len(ahead)-len(end))/len(fill)) + end
	}
	rest := "\nhorizon 0\ncells 0\nslots 0\nstack 0\n"
	wantRefused(t, filled("names", " A", rest), 0, api.ErrCanon)
	wantRefused(t, filled("names", " A", rest+"mul\n"), 6, api.ErrLine)
	wantRefused(t, filled("names", " A", " a"+rest), 1, api.ErrLine)
	wantRefused(t, filled("curs", " EUR", rest), 0, api.ErrCanon)
	wantRefused(t, filled("curs", " EUR", " EU"+rest), 1, api.ErrLine)
	wantRefused(t, filled("pool", " 1", rest), 0, api.ErrCanon)
	wantRefused(t, filled("pool", " 1", " 1."+rest), 1, api.ErrLine)
	wantRefused(t, filled("pool", " 1", rest+"day 0\nconst 2\n"), 7, api.ErrLine)
	wantRefused(t, filled(emptyText, "day 0\n", ""), 0, api.ErrCanon)
	wantRefused(t, filled(emptyText+"day 0\n", "not\n", "end\n"), 0, api.ErrCanon)
	code := filled(emptyText+"day 0\n", "not\n", "nots\n")
	wantRefused(t, code, strings.Count(code, "\n"), api.ErrLine)
	number := filled("horizon 1", "0", "\n")
	wantRefused(t, number, 1, api.ErrLine)
	wantRefused(t, filled("pool 1", "0", "\n"), 1, api.ErrLine)
	wantRefused(t, filled("names A", "A", "\n"), 1, api.ErrLine)
}

// manyNames: so many names of 31 bytes, rising.
func manyNames(count int) []string {
	var list []string
	for n := range count {
		list = append(list, strings.Repeat("N", 29)+string(rune('A'+n/26))+string(rune('A'+n%26)))
	}
	return list
}

func manyCurs(count int) []string {
	var list []string
	for n := range count {
		list = append(list, string([]byte{byte('A' + n/676), byte('A' + n/26%26), byte('A' + n%26)}))
	}
	return list
}

// manyNumbers: so many numbers of 19 digits with a minus, rising.
func manyNumbers(count int) []int {
	var list []int
	for n := range count {
		list = append(list, math.MinInt+n)
	}
	return list
}

// greatest: a program with as much of all as there can be, in as many days; fill is what its code has most of.
func greatest(fill api.Instr) api.Program {
	p := api.Program{Names: manyNames(api.MaxNames), Curs: manyCurs(api.MaxCurs), Pool: manyNumbers(api.MaxPool), Horizon: api.MaxHorizon, Cells: 1 << 15, Slots: api.MaxSlots, Stack: api.MaxStack}
	var list []api.Instr
	for op, count := range map[int]int{api.OpObs: len(p.Names), api.OpFlow: len(p.Curs), api.OpConst: len(p.Pool)} {
		for a := range count {
			list = append(list, api.Instr{Op: op, A: a})
		}
	}
	days := api.MaxHorizon + 1
	list = append(list, slices.Repeat([]api.Instr{fill}, api.MaxCode-days-len(list))...)
	for day := range days {
		size := len(list) / (days - day)
		p.Days = append(p.Days, api.Segment{Day: day, Code: append(slices.Clone(list[:size]), api.Instr{})})
		list = list[size:]
	}
	return p
}

// P1301, P1302, P1304, P1305: the greatest programs are printed and read back; none of their texts is too long to be read.
func TestGreatest(t *testing.T) {
	for _, fill := range []api.Instr{{Op: api.OpObs, A: 63, B: 3660}, {Op: api.OpConst, A: 16383}, {Op: api.OpRatio, A: api.HalfEven}} {
		p := greatest(fill)
		holdPrint(t, p)
		text, e := asm.Print(p)
		if e != api.OK || len(text) > most || strings.Count(text, "\n") != 3+4+api.MaxHorizon+1+api.MaxCode {
			t.Errorf("%d bytes, %d lines, %d", len(text), strings.Count(text, "\n"), e)
		}
		first := &p.Days[0].Code
		*first = append([]api.Instr{{Op: api.OpDrop}}, *first...)
		wantPrint(t, p, "", api.ErrCanon)
		wantRefused(t, strings.Replace(text, "day 0\n", "day 0\n  drop\n", 1), 0, api.ErrCanon)
	}
}

// P1301, P1302: one more than there can be of each.
func TestOneMore(t *testing.T) {
	for _, c := range []struct {
		word    string
		list    []string
		instr   string
		allowed int
	}{
		{"names", manyNames(api.MaxNames + 1), "obs %s 0", api.MaxNames}, {"curs", manyCurs(api.MaxCurs + 1), "flow %s", api.MaxCurs},
	} {
		text := c.word + " " + strings.Join(c.list, " ") + "\n" + emptyText + "day 0\n"
		for _, name := range c.list[:c.allowed] {
			text += "  " + strings.Replace(c.instr, "%s", name, 1) + "\n"
		}
		wantRefused(t, text+"  end\n", 0, api.ErrCanon)
		wantRefused(t, text+"  "+strings.Replace(c.instr, "%s", c.list[c.allowed], 1)+"\n  end\n", 7+c.allowed, api.ErrLine)
		short := strings.Replace(text, " "+c.list[c.allowed]+"\n", "\n", 1) + "  end\n"
		if e := holdParse(t, short); e != api.OK {
			t.Errorf("%s: %d", c.word, e)
		}
	}
	p := api.Program{Pool: manyNumbers(api.MaxPool + 1), Days: []api.Segment{{}}}
	for a := range api.MaxPool {
		p.Days[0].Code = append(p.Days[0].Code, api.Instr{Op: api.OpConst, A: a})
	}
	p.Days[0].Code = append(p.Days[0].Code, api.Instr{})
	wantPrint(t, p, "", api.ErrCanon)
	p.Pool = p.Pool[:api.MaxPool]
	holdPrint(t, p)
	for _, text := range []string{"horizon 3661\ncells 0\nslots 0\nstack 0\n", "horizon 0\ncells 32769\nslots 0\nstack 0\n", "horizon 0\ncells 0\nslots 16385\nstack 0\n", "horizon 0\ncells 0\nslots 0\nstack 16385\n"} {
		wantRefused(t, text, 0, api.ErrCanon)
	}
	wantParse(t, "horizon 3660\ncells 32768\nslots 16384\nstack 16384\n", api.Program{Horizon: 3660, Cells: 32768, Slots: 16384, Stack: 16384})
}
