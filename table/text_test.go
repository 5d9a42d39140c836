package table_test

import (
	"fmt"
	"math/big"
	"regexp"
	"slices"
	"strconv"
	"strings"
	"testing"

	"payoff/api"
	"payoff/table"
)

var (
	wordForm   = regexp.MustCompile(`[^ \t\r]+`)
	dayForm    = regexp.MustCompile(`^(0|[1-9][0-9]*)$`)
	numberForm = regexp.MustCompile(`^(0|-?[1-9][0-9]*)$`)
)

func isPlainCell(word string) (api.Cell, bool) {
	if word == "-" {
		return none, true
	}
	v, err := strconv.Atoi(word)
	return c(v), err == nil && numberForm.MatchString(word)
}

func isPlainDay(word string) (*big.Int, bool) {
	if !dayForm.MatchString(word) {
		return nil, false
	}
	return new(big.Int).SetString(word, 10)
}

// plainParse reads a text by the chapter's words: split into lines, cut at the comment, and those into words.
func plainParse(text string) (api.Table, int, api.Errno) {
	var t api.Table
	start, headed := 0, false
	for _, line := range strings.Split(text, "\n") {
		said, _, _ := strings.Cut(line, "#")
		words := wordForm.FindAllStringIndex(said, -1)
		at, e := -1, api.OK
		switch {
		case len(words) == 0:
		case !headed:
			at, e = plainHead(&t, said, words)
			headed = true
		default:
			at, e = plainRow(&t, said, words, len(line))
		}
		if e != api.OK {
			return api.Table{}, start + at, e
		}
		start += len(line) + 1
	}
	if !headed {
		return api.Table{}, len(text), api.ErrCell
	}
	return t, 0, api.OK
}

func plainHead(t *api.Table, said string, words [][]int) (int, api.Errno) {
	if said[words[0][0]:words[0][1]] != "day" {
		return words[0][0], api.ErrCell
	}
	for i, w := range words[1:] {
		name := said[w[0]:w[1]]
		if i == 64 {
			return w[0], api.ErrLong
		}
		if !plainName(name) || slices.Contains(t.Names, name) {
			return w[0], api.ErrName
		}
		t.Names = append(t.Names, name)
	}
	return 0, api.OK
}

func plainRow(t *api.Table, said string, words [][]int, end int) (int, api.Errno) {
	day, ok := isPlainDay(said[words[0][0]:words[0][1]])
	switch {
	case !ok || day.Cmp(big.NewInt(int64(len(t.Rows)))) < 0:
		return words[0][0], api.ErrCell
	case day.Cmp(big.NewInt(4096)) >= 0:
		return words[0][0], api.ErrLong
	}
	var cells []api.Cell
	for i, w := range words[1:] {
		cell, ok := isPlainCell(said[w[0]:w[1]])
		if !ok || i == len(t.Names) {
			return w[0], api.ErrCell
		}
		cells = append(cells, cell)
	}
	if len(cells) < len(t.Names) {
		return end, api.ErrCell
	}
	for len(t.Rows) < int(day.Int64()) {
		t.Rows = append(t.Rows, make([]api.Cell, len(t.Names)))
	}
	t.Rows = append(t.Rows, cells)
	return 0, api.OK
}

// holdParse holds Parse against plainParse at a text, and what it takes against Valid, Print and Parse again.
func holdParse(t *testing.T, text string) bool {
	t.Helper()
	got, at, e := table.Parse(text)
	want, wantAt, wantE := plainParse(text)
	if !same(got, want) || at != wantAt || e != wantE {
		t.Errorf("Parse(%.80q): %.60v, %d, %d, want %.60v, %d, %d", text, got, at, e, want, wantAt, wantE)
		return false
	}
	if e != api.OK {
		return true
	}
	printed, e := table.Print(got)
	again, at, e2 := table.Parse(printed)
	if table.Valid(got) != api.OK || e != api.OK || e2 != api.OK || at != 0 || !same(again, got) {
		t.Errorf("Parse(%.80q): not valid, or not the same printed and read again", text)
		return false
	}
	return true
}

// eachText calls f with text and all up to depth pieces behind it, while f is content.
func eachText(text string, pieces []string, depth int, f func(string) bool) bool {
	if !f(text) {
		return false
	}
	for _, p := range pieces {
		if depth > 0 && !eachText(text+p, pieces, depth-1, f) {
			return false
		}
	}
	return true
}

// P502, P504
func TestParseAllShortTexts(t *testing.T) {
	for _, x := range []struct {
		start  string
		pieces []string
		depth  int
	}{
		{"", []string{"day", "A", "a", " ", "\n", "#", "0", "-"}, 5},
		{"", []string{"day ", " A", " B", "\n0", "\n1", " -", " 7", "\t", "\r", "#"}, 5},
		{"day A\n", []string{"0", "1", "-", " ", "\n", "#", "x"}, 6},
		{"day\n", []string{"0", "1", "\n", " ", "#", "\v"}, 6},
		{"day A B\n0 1 2", []string{"\n", "\n1", "\n3", " -", " 5", "#", "\r", "\x00"}, 5},
		{"day A\n4095 1", []string{"\n", "4095", "4096", " ", "1", "#"}, 3},
	} {
		eachText(x.start, x.pieces, x.depth, func(text string) bool { return holdParse(t, text) })
	}
}

// P502, P504
func TestParseChangedTexts(t *testing.T) {
	for _, text := range []string{
		"# rates\nday RATE EURUSD\n0 425 1085\n\n2 -3 - # late",
		" day\tA_1 B\r\n0 -9223372036854775808 9223372036854775807\r\n12 - 0#\xff#\n\n",
		"day\n0\n4095\n",
	} {
		holdParse(t, text)
		for at := range len(text) {
			holdParse(t, text[:at])
			holdParse(t, text[:at]+text[at+1:])
			for b := range 256 {
				put := string([]byte{byte(b)})
				if !holdParse(t, text[:at]+put+text[at+1:]) || !holdParse(t, text[:at]+put+text[at:]) {
					return
				}
			}
		}
	}
}

// P502
func TestParseEdges(t *testing.T) {
	const most = 1 << 20
	long := strings.Repeat("9", most-len("day A\n 1"))
	name31 := strings.Repeat("N", 31)
	head64 := "day " + strings.Join(manyNames(0, 64), " ")
	for _, text := range []string{
		"day " + name31, "day " + name31 + "N", "day A B_ C9", "day _A", "day 9A", "day A day", "daY", "DAY", "day#A", "#day", "da#y", "day A#B", "day\vA", "day\fA", "day A\x00", "day \u00c4", "day A\u00a0B",
		"day A\n4095 1", "day A\n4096 1", "day A\n10000 1", "day A\n04095 1", "day A\n04096 1", "day A\n+0 1", "day A\n0x1 1", "day A\n- 1", "day A\n-0 1", "day A\n1_0 1", "day A\n4294967296 1", "day A\n9223372036854775808 1", "day A\n18446744073709551616 1", "day A\n99999999999999999999x 1",
		"day A\n" + long + " 1", "day A\n0" + long[1:] + " 1", "day A\n" + long[1:] + "x 1", "day A\n0 " + long[2:] + "0",
		"day A\n0 9223372036854775807", "day A\n0 9223372036854775808", "day A\n0 -9223372036854775808", "day A\n0 -9223372036854775809", "day A\n0 -0", "day A\n0 +1", "day A\n0 01", "day A\n0 1.0", "day A\n0 -#", "day A\n0 1#2", "day A\n0#1\n", "day A\n0 \t\r # 1\n1 1",
		"day A\n0 1\n0 1", "day A\n5 1\n4 1", "day A\n5 1\n6 1", "day A\n0 1\nday A", "day A\n0 1 x", "day A\n0 1 2 x", "day A B\n0 1", "day A B\n0 1 \n1 1 1", "day A B\n\n\n0 x y",
		head64, head64 + " N64", head64 + " N0", head64 + " x", head64 + "\n0" + strings.Repeat(" 1", 64), head64 + "\n0" + strings.Repeat(" 1", 65), head64 + "\n0" + strings.Repeat(" 1", 63), head64 + "\n4095" + strings.Repeat(" -", 64),
		strings.Repeat("\n", most), strings.Repeat(" ", most-3) + "day", strings.Repeat("#", most), strings.Repeat("#\n", most/2), strings.Repeat("day\n", 1<<18), "day\n" + strings.Repeat("x", most-4),
	} {
		holdParse(t, text)
	}
	for _, text := range []string{strings.Repeat("\n", most+1), "day\n" + strings.Repeat(" ", most-3), strings.Repeat("x", most+1), strings.Repeat("#", 2*most)} {
		wantParse(t, text, api.Table{}, 0, api.ErrLong)
	}
}

func plainPrint(x api.Table) string {
	var b strings.Builder
	fmt.Fprintln(&b, strings.Join(append([]string{"day"}, x.Names...), " "))
	for day, cells := range x.Rows {
		fmt.Fprint(&b, day)
		for _, cell := range cells {
			if cell.Has {
				fmt.Fprintf(&b, " %d", cell.V)
			} else {
				fmt.Fprint(&b, " -")
			}
		}
		fmt.Fprintln(&b)
	}
	return b.String()
}

// P503, P504
func TestPrint(t *testing.T) {
	r := newChance()
	tables := soundTables()
	for range 2000 {
		tables = append(tables, r.sound())
	}
	for _, x := range tables {
		text := plainPrint(x)
		wantPrint(t, x, text, api.OK)
		wantParse(t, text, x, 0, api.OK)
	}
}

// sized gives a table whose text has just so many bytes, between 2^19 and 2^21.
func sized(t *testing.T, length int) api.Table {
	t.Helper()
	x := wide(64, 4096)
	at := length - len(plainPrint(x))
	for day := 4095; day >= 0; day-- {
		for i := range x.Rows[day] {
			v, more := -1, 1
			if at >= 19 {
				v, more = -1<<63, 19
			}
			if at < more {
				continue
			}
			x.Rows[day][i] = c(v)
			at -= more
		}
	}
	if len(plainPrint(x)) != length {
		t.Fatalf("no table of %d bytes", length)
	}
	return x
}

// P503, P504
func TestPrintOfLongTexts(t *testing.T) {
	const most = 1 << 20
	for _, length := range []int{most - 1, most} {
		x := sized(t, length)
		wantPrint(t, x, plainPrint(x), api.OK)
		wantParse(t, plainPrint(x), x, 0, api.OK)
	}
	for _, length := range []int{most + 1, most + 2, 2 * most} {
		wantPrint(t, sized(t, length), "", api.ErrLong)
	}
	stainedToo := sized(t, most+1)
	stainedToo.Rows[0][0] = stained
	wantPrint(t, stainedToo, "", api.ErrCell)
}

// P504: a text that leaves out days may be read though what Print would write is too long.
func TestParseOfATextThatGrows(t *testing.T) {
	const last = 4095
	text := "day " + strings.Join(manyNames(0, 64), " ") + "\n"
	for day := last - 600; day < last; day++ {
		text += strconv.Itoa(day) + strings.Repeat(" -9223372036854775808", 64) + "\n"
	}
	x, at, e := table.Parse(text)
	if len(x.Rows) != last || at != 0 || e != api.OK || table.Valid(x) != api.OK {
		t.Fatalf("%d rows, %d, %d", len(x.Rows), at, e)
	}
	wantPrint(t, x, "", api.ErrLong)
}
