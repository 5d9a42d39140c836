package asm_test

import (
	"fmt"
	"math"
	"slices"
	"strings"
	"testing"

	"payoff/api"
	"payoff/asm"
	"payoff/code"
)

// P1302: all rows of up to five lines of each kind, from the text's beginning on, and behind the stack's line.
func TestOrderOfLines(t *testing.T) {
	t.Parallel()
	kinds := []string{"names A", "curs EUR", "pool 5", "horizon 1", "cells 0", "slots 0", "stack 2", "day 1", "  drop", "  end", "; nothing"}
	var text []string
	var longer func(ahead string, most int)
	longer = func(ahead string, most int) {
		holdParse(t, ahead+strings.Join(text, "\n"))
		if len(text) == most || t.Failed() {
			return
		}
		for _, line := range kinds {
			text = append(text, line)
			longer(ahead, most)
			text = text[:len(text)-1]
		}
	}
	longer("", 5)
	longer("horizon 1\ncells 0\n", 4)
	longer("pool 5\nhorizon 1\ncells 0\nslots 0\nstack 2\n", 4)
	longer("horizon 1\ncells 0\nslots 0\nstack 2\nday 0\n drop\n end\n", 4)
}

// P1302: each line of the example left out, put in once more, moved: the first line that cannot stand there is told.
func TestLinesMoved(t *testing.T) {
	list := strings.SplitAfter(strings.TrimSuffix(exampleText, "\n"), "\n")
	for from := range list {
		rest := slices.Delete(slices.Clone(list), from, from+1)
		holdParse(t, strings.Join(rest, ""))
		for to := range len(list) + 1 {
			holdParse(t, strings.Join(slices.Insert(slices.Clone(list), to, list[from]), ""))
			if to < len(list) {
				holdParse(t, strings.Join(slices.Insert(slices.Clone(rest), to, list[from]), ""))
			}
		}
	}
	wantRefused(t, "curs EUR\n"+exampleText, 2, api.ErrLine)
	wantRefused(t, exampleText+"names A\n", 14, api.ErrLine)
	wantRefused(t, exampleText+"horizon 1\n", 14, api.ErrLine)
	wantRefused(t, exampleText+"stack 2\n", 14, api.ErrLine)
}

// P1302: a text that ends too early, with and without a line feed at its end: the number of lines and 1.
func TestEndsTooEarly(t *testing.T) {
	for text, line := range map[string]int{
		"": 1, "\n": 2, "\n\n": 3, " ": 2, ";": 2, " \n;\n\t": 4, ";\n": 2,
		"names A": 2, "names A\n": 2, "names A\n\n": 3, "names A\ncurs EUR\npool 1": 4,
		"horizon 0": 2, "horizon 0\ncells 0\n": 3, "horizon 0\ncells 0\nslots 0": 4, "horizon 0\ncells 0\nslots 0\n\n ; stack 0\n": 6,
	} {
		wantRefused(t, text, line, api.ErrLine)
		holdParse(t, text)
	}
	for cut := range len(exampleText) + 1 {
		holdParse(t, exampleText[:cut])
	}
}

// P1302: the first line that is wrong is told, whatever follows.
func TestFirstWrongLine(t *testing.T) {
	for _, rest := range []string{"", "horizon 0\n", "\x00", exampleText, "names\nnames\n"} {
		wantRefused(t, "names A\nhorizon 0\ncells -1\n"+rest, 3, api.ErrLine)
		wantRefused(t, "\n\nmul\n"+rest, 3, api.ErrLine)
		wantRefused(t, emptyText+"\n; a comment\nday 0\nmul\nmull\n"+rest, 9, api.ErrLine)
	}
}

// P1302: each byte, ahead of a word, between two, inside one, and behind it: three are blanks, one begins a comment, one ends the line.
func TestEachByte(t *testing.T) {
	for b := range 256 {
		c := string([]byte{byte(b)})
		for _, form := range []string{"%shorizon 0", "horizon%s0", "horizon 0%s", "horizon 0 %s", "horizon 0%s1", "hori%szon 0", "names A%sB\nhorizon 0", "names A%s\nhorizon 0", "pool 1%s2\nhorizon 0", "curs EUR%sUSD\nhorizon 0"} {
			line := strings.Replace(form, "%s", c, 1)
			holdParse(t, line+"\ncells 0\nslots 0\nstack 0\n")
		}
		end := api.ErrLine
		if strings.Contains(" \t\r\n;", c) {
			end = api.OK
		}
		if e := holdParse(t, emptyText[:len(emptyText)-1]+c); e != end {
			t.Errorf("the byte %d at the end: %d", b, e)
		}
		line, said := 0, api.OK
		if end != api.OK {
			line, said = 10, api.ErrLine
		}
		if _, n, e := asm.Parse(strings.Replace(exampleText, "const 5\n", "const"+c+"5\n", 1)); b != ';' && b != '\n' && (n != line || e != said) {
			t.Errorf("the byte %d between two words: %d, %d", b, n, e)
		}
	}
}

// P1302: bytes that are no text of any encoding, and runes of several bytes, are of words like others; in a comment they are nothing.
func TestOtherRunes(t *testing.T) {
	for _, c := range []string{"\u00a0", "\u0085", "\u2028", "\u3000", "\ufeff", "\u00e4", "\U0001f600", "\ufffd", "\xff", "\xc3", "\xe2\x82", "\x80", "\x00", "\v", "\f", "\u037e"} {
		wantParse(t, "; "+c+"\n"+strings.ReplaceAll(exampleText, "\n", ";"+c+" ; "+c+"\n"), example())
		for at, line := range plainLines(exampleText) {
			for _, put := range []string{line + " " + c, line + c, c + line, c + " " + line, strings.Replace(line, " ", c, 1)} {
				list := plainLines(exampleText)
				if list[at] = put; put == line {
					continue
				}
				wantRefused(t, strings.Join(list, "\n"), at+1, api.ErrLine)
			}
		}
		wantRefused(t, c, 1, api.ErrLine)
		wantRefused(t, c+" "+exampleText, 1, api.ErrLine)
	}
}

// P1302, P1304: a comment begins inside of a word, too, and goes to the line's end alone.
func TestComments(t *testing.T) {
	wantParse(t, strings.ReplaceAll(exampleText, "\n", ";end\n"), example())
	wantParse(t, ";names B\n"+exampleText, example())
	wantParse(t, strings.ReplaceAll(exampleText, "\n", ";;; end ; \r\n;\n"), example())
	wantParse(t, exampleText+";", example())
	wantRefused(t, strings.Replace(exampleText, "obs A 1", "obs A ; 1", 1), 9, api.ErrLine)
	wantRefused(t, strings.Replace(exampleText, "obs A 1", "obs A ;\n 1", 1), 9, api.ErrLine)
	wantRefused(t, strings.Replace(exampleText, "horizon 1", "hor;izon 1", 1), 4, api.ErrLine)
	wantRefused(t, strings.Replace(exampleText, "  end", "  ;end", 1), 0, api.ErrCanon)
	wantRefused(t, strings.Replace(exampleText, "stack 2", ";stack 2", 1), 8, api.ErrLine)
	wantRefused(t, strings.Replace(exampleText, "names A", "names ;A", 1), 1, api.ErrLine)
}

// P1302: the words of lines are just those, in small letters, and the first of their line.
func TestLinesWords(t *testing.T) {
	for at, line := range plainLines(emptyText) {
		word := strings.Fields(line)[0]
		for _, put := range []string{strings.ToUpper(word) + " 0", word[1:] + " 0", word + "s 0", word[:len(word)-1] + " 0", word, word + " 0 0", word + " " + line, "0 " + word, "0", word + "0", word + " -1", word + " -0", word + " +0", word + " 00", word + " 0x0", word + " A", word + " 1_0", word + " 9223372036854775808", word + " 18446744073709551616"} {
			list := plainLines(emptyText)
			list[at] = put
			wantRefused(t, strings.Join(list, "\n"), at+1, api.ErrLine)
		}
		list := plainLines(emptyText)
		list[at] = word + " 9223372036854775807"
		wantRefused(t, strings.Join(list, "\n"), 0, api.ErrCanon)
	}
	for _, put := range []string{"day", "day 0 0", "day -1", "day -0", "day 00", "day A", "days 0", "DAY 0", "day 9223372036854775808", "0 day"} {
		wantRefused(t, emptyText+put, 5, api.ErrLine)
		wantRefused(t, exampleText+put, 14, api.ErrLine)
	}
	wantRefused(t, emptyText+"day 9223372036854775807", 0, api.ErrCanon)
}

// P1302: names, currencies and values, of which each must be one.
func TestListsWords(t *testing.T) {
	rest := "\nhorizon 0\ncells 0\nslots 0\nstack 0\nday 0\n"
	long := strings.Repeat("A", 31)
	for _, word := range []string{"A", "Z", "A1", "A_", "A_1", "EUR", long, long + "A", "a", "Aa", "_A", "1A", "1", "A-", "A.", "\u00c4", "NAMES", "names", "A,B", "AB\x00"} {
		for _, form := range []string{"names %s", "names %s B", "names B %s", "names A %s Z"} {
			line := strings.Replace(form, "%s", word, 1)
			holdParse(t, line+rest+"obs "+word+" 0\nend\n")
			holdParse(t, line+rest+"obs B 0\nobs "+word+" 0\nend\n")
		}
	}
	for _, word := range []string{"EUR", "AAA", "ZZZ", "EU", "EURO", "eur", "EUr", "EU1", "E_R", "\u00c4A", "", "curs"} {
		for _, form := range []string{"curs %s", "curs %s USD", "curs ABC %s", "curs ABC %s USD"} {
			holdParse(t, strings.Replace(form, "%s", word, 1)+rest+"drop\nflow "+word+"\nend\n")
		}
	}
	for _, word := range []string{"0", "-1", "1", "10", "-0", "00", "01", "-01", "+1", "--1", "-", "1-", "1.0", "1e3", "0x1", "A", "9223372036854775807", "9223372036854775808", "-9223372036854775808", "-9223372036854775809", "99999999999999999999999", "18446744073709551617"} {
		for _, form := range []string{"pool %s", "pool %s 77", "pool -77 %s", "pool -77 %s 77"} {
			holdParse(t, strings.Replace(form, "%s", word, 1)+rest+"const "+word+"\nend\n")
			holdParse(t, "pool 0 1"+rest+"const "+word+"\nconst 0\nconst 1\nend\n")
		}
	}
}

// P1302: what stands in a list more than once counts by its first place; such a program is not in its one form.
func TestTwiceInAList(t *testing.T) {
	for _, text := range []string{
		"names A A\nhorizon 0\ncells 0\nslots 0\nstack 0\nday 0\nobs A 0\nend\n",
		"curs EUR USD EUR\nhorizon 0\ncells 0\nslots 0\nstack 0\nday 0\nflow EUR\nflow USD\nend\n",
		"pool 1 2 1\nhorizon 0\ncells 0\nslots 0\nstack 0\nday 0\nconst 1\nconst 2\nend\n",
		"names B A\nhorizon 0\ncells 0\nslots 0\nstack 0\nday 0\nobs A 0\nobs B 0\nend\n",
	} {
		wantRefused(t, text, 0, api.ErrCanon)
	}
}

// P1302: by the first place 64 names of one kind ahead of another are no bar, but the other's place is.
func TestPlacesBeyondTheirBounds(t *testing.T) {
	rest := "\nhorizon 0\ncells 0\nslots 0\nstack 0\nday 0\n"
	for _, c := range []struct {
		word, fill, other, instr string
		most                     int
	}{
		{"names", "A", "B", "obs %s 0", api.MaxNames}, {"curs", "EUR", "USD", "flow %s", api.MaxCurs}, {"pool", "1", "2", "const %s", api.MaxPool},
	} {
		for more := -2; more < 3; more++ {
			list := c.word + strings.Repeat(" "+c.fill, c.most+more) + " " + c.other
			wantRefused(t, list+rest+strings.Replace(c.instr, "%s", c.fill, 1)+"\n", 0, api.ErrCanon)
			other := list + rest + strings.Replace(c.instr, "%s", c.other, 1) + "\n"
			if more < 0 {
				wantRefused(t, other, 0, api.ErrCanon)
			} else {
				wantRefused(t, other, 7, api.ErrLine)
			}
			wantRefused(t, list+" "+c.fill+rest+strings.Replace(c.instr, "%s", c.fill, 1)+"\n", 0, api.ErrCanon)
		}
	}
}

// bounds: numbers about the bounds of operands.
func bounds() []int {
	list := []int{math.MaxInt, 1 << 32, 1<<32 + 1, 1 << 16}
	for _, bound := range []int{0, 4, api.MaxNames, api.MaxHorizon + 1, api.MaxCurs, api.MaxPool, 1 << 15, api.MaxCode} {
		list = append(list, bound, bound+1, bound+2, max(bound-1, 0), max(bound-2, 0))
	}
	return list
}

// P1302: each instruction with none, one, two and three words behind it, of each kind, about all bounds.
func TestEachInstruction(t *testing.T) {
	ahead := "names A B\ncurs EUR USD\npool -3 0 1 4 77\nhorizon 0\ncells 32768\nslots 16384\nstack 0\nday 0\n"
	words := []string{"A", "B", "C", "EUR", "USD", "JPY", "-3", "77", "-1", "00", "-0", "+1", "one", "true"}
	words = append(append(words, plainModes...), "up", "half", "Down", "half-up", "HALF_UP", "half_even_")
	for _, n := range bounds() {
		words = append(words, fmt.Sprint(n))
	}
	for op := range 29 {
		name, _ := code.Name(op)
		for _, form := range []string{name, strings.ToUpper(name), name + "s", name[1:]} {
			holdParse(t, ahead+form+"\n")
		}
		for _, first := range words {
			holdParse(t, ahead+name+" "+first+"\n")
			holdParse(t, ahead+first+" "+name+"\n")
			holdParse(t, ahead+name+first+"\n")
			for _, second := range words {
				holdParse(t, ahead+name+" "+first+" "+second+"\n")
			}
			holdParse(t, ahead+name+" "+first+" 1 1\n")
		}
	}
}

// P1302: without a list nothing of it is known.
func TestWithoutLists(t *testing.T) {
	for _, line := range []string{"obs A 0", "flow EUR", "const 0", "const -1", "const"} {
		wantRefused(t, emptyText+"day 0\n"+line+"\nend\n", 6, api.ErrLine)
	}
}

// P1303: each instruction, its operands about all bounds, in programs with lists of no, one and many parts, in no form at all.
func TestPrintEachInstruction(t *testing.T) {
	programs := []api.Program{
		{}, example(),
		{Names: []string{"b", "", "A B", "\x00;"}, Curs: []string{"euro", "\n"}, Pool: []int{math.MaxInt, math.MinInt, 0, -1}, Horizon: -1, Cells: -1, Slots: -1, Stack: math.MaxInt, Days: []api.Segment{{Day: -5}}},
		{Names: slices.Repeat([]string{"A", "B"}, 50), Curs: slices.Repeat([]string{"EUR", "USD"}, 3000), Pool: slices.Repeat([]int{-7, 8}, 9000)},
	}
	operands := append(bounds(), -1, math.MinInt, 2, 3)
	for _, p := range programs {
		for op := -1; op < 31; op++ {
			for _, a := range operands {
				for _, b := range operands {
					i := api.Instr{Op: op, A: a, B: b}
					want, e := plainPrintInstr(p, i)
					wantInstr(t, p, i, want, e)
				}
			}
		}
		for _, op := range []int{math.MinInt, math.MaxInt, 1 << 32, 256} {
			wantInstr(t, p, api.Instr{Op: op}, "", api.ErrOp)
		}
	}
	wantInstr(t, programs[2], api.Instr{Op: api.OpObs, A: 2, B: 3660}, "obs A B 3660", api.OK)
	wantInstr(t, programs[2], api.Instr{Op: api.OpConst, A: 1}, "const -9223372036854775808", api.OK)
}

// P1303: ErrOp comes ahead of ErrRange.
func TestPrintInstrOrder(t *testing.T) {
	p := example()
	wantInstr(t, p, api.Instr{Op: api.OpObs, A: 1, B: 3661}, "", api.ErrOp)
	wantInstr(t, p, api.Instr{Op: api.OpObs, A: 64}, "", api.ErrOp)
	wantInstr(t, p, api.Instr{Op: api.OpObs, A: 63}, "", api.ErrRange)
	wantInstr(t, p, api.Instr{Op: api.OpConst, A: 1, B: 1}, "", api.ErrOp)
	wantInstr(t, p, api.Instr{Op: api.OpConst, A: 16383}, "", api.ErrRange)
	wantInstr(t, p, api.Instr{Op: api.OpFlow, A: -1}, "", api.ErrOp)
	wantInstr(t, p, api.Instr{Op: api.OpFlow, A: 4095}, "", api.ErrRange)
}
