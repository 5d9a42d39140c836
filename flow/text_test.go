package flow_test

import (
	"math/rand"
	"slices"
	"strconv"
	"strings"
	"testing"

	"payoff/api"
	"payoff/flow"
)

func expectPrint(t *testing.T, flows []api.Flow, want string, e api.Errno) {
	t.Helper()
	got, err := flow.Print(flows)
	if err != e || got != want {
		t.Errorf("Print(%v) = %q, %d, want %q, %d", flows, got, err, want, e)
	}
}

func expectParsed(t *testing.T, text string, want []api.Flow) {
	t.Helper()
	got, at, e := flow.Parse(text)
	if e != api.OK || at != 0 || !slices.Equal(got, want) {
		t.Errorf("Parse(%q) = %v, %d, %d, want %v", text, got, at, e, want)
	}
}

func expectRefused(t *testing.T, text string, place int) {
	t.Helper()
	got, at, e := flow.Parse(text)
	if e != api.ErrFlow || at != place || len(got) != 0 {
		t.Errorf("Parse(%q) = %v, %d, %d, want ErrFlow at %d", text, got, at, e, place)
	}
}

func repeated(f api.Flow, n int) []api.Flow {
	list := make([]api.Flow, n)
	for i := range list {
		list[i] = f
	}
	return list
}

// P307

func TestPrint(t *testing.T) {
	expectPrint(t, []api.Flow{}, "", api.OK)
	expectPrint(t, []api.Flow{on(1<<30, "ZZZ", most), on(0, "AAA", least)}, "1073741824 ZZZ 9223372036854775807\n0 AAA -9223372036854775808\n", api.OK)
	// Neither ordered nor netted: as it stands in the list.
	expectPrint(t, []api.Flow{on(10, "USD", 1), on(9, "EUR", -10), on(9, "EUR", -10)}, "10 USD 1\n9 EUR -10\n9 EUR -10\n", api.OK)
}

func TestPrintTellsTheFirstFlowThatIsNotRight(t *testing.T) {
	right, day, cur := on(1, "EUR", 1), on(1<<30+1, "EUR", 1), on(1, "EURO", 1)
	expectPrint(t, []api.Flow{right, day, cur}, "", api.ErrRange)
	expectPrint(t, []api.Flow{right, cur, day}, "", api.ErrArg)
	expectPrint(t, []api.Flow{right, right, on(-1, "EUR", 1)}, "", api.ErrRange)
	// Also ahead of a text that is too long.
	long := repeated(right, 1<<17+1)
	expectError(t, append(slices.Clone(long), day), api.ErrRange)
	expectError(t, append(slices.Clone(long), cur, day), api.ErrArg)
	expectError(t, long, api.ErrLong)
}

func expectError(t *testing.T, flows []api.Flow, e api.Errno) {
	t.Helper()
	if got, err := flow.Print(flows); err != e || got != "" {
		t.Errorf("Print of %d flows = %d bytes, %d, want %d", len(flows), len(got), err, e)
	}
}

func TestPrintAtItsLimit(t *testing.T) {
	// Lines of 8 bytes: 2^17 of them are just 2^20 bytes.
	list := repeated(on(1, "EUR", 1), 1<<17)
	got, e := flow.Print(list)
	if e != api.OK || got != strings.Repeat("1 EUR 1\n", 1<<17) {
		t.Errorf("Print of just 2^20 bytes: %d bytes, %d", len(got), e)
	}
	list[1<<16].Amount = 10
	expectError(t, list, api.ErrLong)
	list[0].Amount = -1
	expectError(t, list, api.ErrLong)
	if got, e := flow.Print(list[1:]); e != api.OK || len(got) != 1<<20-7 {
		t.Errorf("Print of 2^20 - 7 bytes: %d bytes, %d", len(got), e)
	}
	expectError(t, repeated(on(1, "EUR", 1), 1<<20), api.ErrLong)
}

// P308

func TestParse(t *testing.T) {
	expectParsed(t, "", nil)
	expectParsed(t, "0 AAA 0\n", []api.Flow{on(0, "AAA", 0)})
	expectParsed(t, "1073741824 ZZZ -9223372036854775808\n0 AAA 9223372036854775807\n", []api.Flow{on(1<<30, "ZZZ", least), on(0, "AAA", most)})
	expectParsed(t, "10 USD 100\n9 EUR -10\n9 EUR -10\n", []api.Flow{on(10, "USD", 100), on(9, "EUR", -10), on(9, "EUR", -10)})
}

func TestParseTellsThePlace(t *testing.T) {
	for _, c := range []struct {
		text string
		at   int
	}{
		{" ", 0}, {"-", 0}, {"+1 EUR 1\n", 0}, {"-1 EUR 1\n", 0}, {"x", 0}, {"\x00", 0}, {"\xff", 0}, {"EUR", 0},
		{"0", 1}, {"01", 1}, {"0\n", 1}, {"0-", 1}, {"1", 1}, {"1\tEUR 1\n", 1}, {"1-", 1},
		{"1 ", 2}, {"1  EUR 1\n", 2}, {"1 eur 1\n", 2}, {"1 1\n", 2},
		{"1 E", 3}, {"1 E ", 3}, {"1 EU", 4}, {"1 EU 1\n", 4}, {"1 EU\n", 4},
		{"1 EUR", 5}, {"1 EURO 1\n", 5}, {"1 EUR\n", 5}, {"1 EUR1\n", 5},
		{"1 EUR ", 6}, {"1 EUR  1\n", 6}, {"1 EUR +1\n", 6}, {"1 EUR \n", 6}, {"1 EUR x", 6},
		{"1 EUR -", 7}, {"1 EUR --1\n", 7}, {"1 EUR -\n", 7}, {"1 EUR -0\n", 7}, {"1 EUR -01\n", 7}, {"1 EUR 00\n", 7},
		{"1 EUR 1", 7}, {"1 EUR 1 ", 7}, {"1 EUR 1\r\n", 7}, {"1 EUR 1.0\n", 7}, {"1 EUR 1-", 7},
		{"1 EUR 1\n\n", 8}, {"1 EUR 1\n ", 8}, {"1 EUR 1\n2", 9}, {"1 EUR 1\n02 EUR 1\n", 9},
		{"1073741823", 10}, {"1073741824", 10}, {"1073741825", 9}, {"1073741829", 9}, {"1073741830", 9}, {"1073741900", 9},
		{"999999999", 9}, {"9999999999", 9}, {"10737418240", 10}, {"10000000000", 10}, {"2000000000", 9}, {"18446744073709551617 EUR 1\n", 9},
		{"1 EUR 9223372036854775807", 25}, {"1 EUR 9223372036854775808", 24}, {"1 EUR 9223372036854775809", 24}, {"1 EUR 92233720368547758070\n", 25},
		{"1 EUR 9223372036854775810", 24}, {"1 EUR 9300000000000000000\n", 24}, {"1 EUR 10000000000000000000\n", 25}, {"1 EUR 18446744073709551617\n", 25},
		{"1 EUR -9223372036854775808", 26}, {"1 EUR -9223372036854775809\n", 25}, {"1 EUR -92233720368547758080\n", 26}, {"1 EUR -9300000000000000000\n", 25},
		{"1 EUR 1\n1 EUR -10000000000000000000\n", 34},
	} {
		expectRefused(t, c.text, c.at)
		// A whole line ahead of it moves the place, and nothing else.
		expectRefused(t, "12 USD -34\n"+c.text, 11+c.at)
	}
}

func TestParseAtItsLimit(t *testing.T) {
	just := strings.Repeat("1 EUR 1\n", 1<<17)
	expectParsed(t, just, repeated(on(1, "EUR", 1), 1<<17))
	for _, text := range []string{just + "1", just + "1 EUR 1\n", just + "x", "x" + just, strings.Repeat("\n", 1<<20+1), strings.Repeat("1", 1<<21)} {
		if got, at, e := flow.Parse(text); e != api.ErrLong || at != 0 || len(got) != 0 {
			t.Errorf("Parse of %d bytes: %d flows, %d, %d, want ErrLong at 0", len(text), len(got), at, e)
		}
	}
	// A text of just 2^20 bytes that ends inside a line is a beginning of one that Print has no room for.
	cut := strings.Repeat("1 EUR 1\n", 1<<17-1) + "1 EUR 12"
	if got, at, e := flow.Parse(cut); e != api.ErrFlow || at != 1<<20 || len(got) != 0 {
		t.Errorf("Parse of a line cut at 2^20 bytes: %d flows, %d, %d", len(got), at, e)
	}
}

// plainParse takes a text apart by the library's means, and takes it if it is what Print answers.
func plainParse(text string) ([]api.Flow, bool) {
	var list []api.Flow
	for line := range strings.Lines(text) {
		fields := strings.Split(strings.TrimSuffix(line, "\n"), " ")
		if len(fields) != 3 {
			return nil, false
		}
		day, dayErr := strconv.Atoi(fields[0])
		amount, amountErr := strconv.Atoi(fields[2])
		if dayErr != nil || amountErr != nil {
			return nil, false
		}
		list = append(list, api.Flow{Day: day, Cur: fields[1], Amount: amount})
	}
	printed, e := flow.Print(list)
	return list, e == api.OK && printed == text
}

// begins tells whether some text that Print answers begins so: one of these ends must make it whole.
func begins(text string) bool {
	for _, end := range []string{"", " AAA 0\n", "AAA 0\n", "AA 0\n", "A 0\n", " 0\n", "0\n", "1\n", "\n"} {
		if _, ok := plainParse(text + end); ok {
			return true
		}
	}
	return false
}

// expectPlain holds Parse against a plain reading of P308.
func expectPlain(t *testing.T, text string) {
	t.Helper()
	if list, ok := plainParse(text); ok {
		expectParsed(t, text, list)
		return
	}
	place := len(text)
	for !begins(text[:place]) {
		place--
	}
	expectRefused(t, text, place)
}

func TestParseOfEveryShortText(t *testing.T) {
	const letters = "019 -A\na"
	ahead := []string{"", "1 ", "1 AA", "1 AAA", "1 AAA ", "1 AAA -", "107374182", "1 AAA 922337203685477580", "1 AAA -922337203685477580", "1 AAA 1\n"}
	texts := []string{""}
	for range 4 {
		var longer []string
		for _, text := range texts {
			for i := range len(letters) {
				longer = append(longer, text+letters[i:i+1])
			}
		}
		for _, text := range longer {
			for _, a := range ahead {
				expectPlain(t, a+text)
			}
		}
		texts = longer
	}
}

func TestParseOfTextsWithOneByteChanged(t *testing.T) {
	for _, text := range []string{"0 EUR -5\n12 USD 0\n", "1073741824 EUR -9223372036854775808\n", "1073741823 ZZZ 9223372036854775807\n9 AAA 1\n"} {
		for i := range len(text) {
			expectPlain(t, text[:i])
			expectPlain(t, text[:i]+text[i+1:])
			for b := range 256 {
				c := string([]byte{byte(b)})
				expectPlain(t, text[:i]+c+text[i+1:])
				expectPlain(t, text[:i]+c+text[i:])
			}
		}
	}
}

// P309

func TestPrintAndParseGiveBack(t *testing.T) {
	r := rand.New(rand.NewSource(9))
	for range 2000 {
		list := make([]api.Flow, r.Intn(6))
		for i := range list {
			cur := []byte{byte('A' + r.Intn(26)), byte('A' + r.Intn(26)), byte('A' + r.Intn(26))}
			list[i] = api.Flow{Day: r.Intn(1<<30+1) >> r.Intn(31), Cur: string(cur), Amount: int(r.Uint64()) >> r.Intn(64)}
		}
		text, e := flow.Print(list)
		if e != api.OK {
			t.Fatalf("Print(%v): %d", list, e)
		}
		expectParsed(t, text, list)
		again, _, _ := flow.Parse(text)
		expectPrint(t, again, text, api.OK)
	}
}

// Rules that hold everywhere

func TestPrintChangesNothing(t *testing.T) {
	list, unchanged := roomy(t, example2())
	flow.Print(list)
	unchanged()
}
