package desk_test

import (
	"fmt"
	"slices"
	"strings"
	"testing"

	"payoff/api"
	"payoff/desk"
)

func wantNew(t *testing.T, files []api.File, at int, e api.Errno) {
	t.Helper()
	d, gotAt, gotE := desk.New(files)
	if gotAt != at || gotE != e || (d != nil) != (e == api.OK) {
		t.Errorf("New of %d texts: %d, %d, want %d, %d", len(files), gotAt, gotE, at, e)
	}
	// Run tells New's error ahead of all that is wrong with the script.
	if e != api.OK {
		for _, script := range []string{"", "book", "flush", strings.Repeat("x", 70000), strings.Repeat("\n", 3000)} {
			if all, line, gotE := desk.Run(files, script); all != "" || line != 0 || gotE != e {
				t.Errorf("Run: %q, %d, %d, want %d", all, line, gotE, e)
			}
		}
	}
}

// P2301
func TestNewNames(t *testing.T) {
	wantNew(t, nil, 0, api.OK)
	wantNew(t, []api.File{}, 0, api.OK)
	right := []string{"a", "a1", "a_", "as_", "asa", "onn", "deals", "nofold", "noshare", "book", "compile", longName}
	var files []api.File
	for _, name := range right {
		files = append(files, api.File{Name: name})
	}
	wantNew(t, files, 0, api.OK)
	for _, name := range []string{"", "as", "on", "deal", "day", "by", "A", "Ab", "aB", "1", "1a", "_", "_a", "a-b", "a b", " a", "a ", "a.txt", "a\n", "a\x00", "\xff", "\u00e4", longName + "x"} {
		for _, at := range []int{0, 1, len(files)} {
			wantNew(t, slices.Insert(slices.Clone(files), at, api.File{Name: name, Text: "day"}), at, api.ErrArg)
		}
	}
	for n := range files {
		wantNew(t, append(slices.Clone(files), files[n]), len(files), api.ErrArg)
		wantNew(t, slices.Insert(slices.Clone(files), n, files[n]), n+1, api.ErrArg)
	}
}

// P2301: how long a text may be; the first text that is wrong; of one text the name first.
func TestNewLengths(t *testing.T) {
	most, over := strings.Repeat("#", 1<<20), strings.Repeat("#", 1<<20+1)
	wantNew(t, []api.File{{Name: "a", Text: most}, {Name: "b", Text: most}}, 0, api.OK)
	wantNew(t, []api.File{{Name: "a", Text: most}, {Name: "b", Text: over}}, 1, api.ErrLong)
	wantNew(t, []api.File{{Name: "a", Text: over}, {Name: "b", Text: over}}, 0, api.ErrLong)
	wantNew(t, []api.File{{Name: "a", Text: over}, {Name: "a"}}, 0, api.ErrLong)
	wantNew(t, []api.File{{Name: "a", Text: over}, {Name: "as"}}, 0, api.ErrLong)
	wantNew(t, []api.File{{Name: "a"}, {Name: "as"}, {Name: "b", Text: over}}, 1, api.ErrArg)
	wantNew(t, []api.File{{Name: "as", Text: over}}, 0, api.ErrArg)
	wantNew(t, []api.File{{Name: "a"}, {Name: "a", Text: over}}, 1, api.ErrArg)
	// The longest texts are read.
	d := made(t, []api.File{{Name: "a", Text: "day\n" + most[4:]}, {Name: "b", Text: most}})
	want(t, d, "table a as t", "t 0 rows")
	want(t, d, "table b as t", "t place 1048576 refused 51")
	want(t, d, "compile b as p", "p too long")
	want(t, d, "print b", "place 0 refused 6")
	want(t, d, "measure b", "place 0 refused 6")
	want(t, d, "assemble b as p", "p line 1 refused 131")
}

// P2301: nothing is made, and the book is new.
func TestNewDesk(t *testing.T) {
	d := made(t, exampleTexts())
	want(t, d, "book", "today 0")
	want(t, d, "ledger")
	want(t, d, "journal", "journal 8 bytes 0 records")
	for _, name := range []string{"swap", "rates", "two", "p", "t"} {
		for _, line := range []string{"list N", "needs N", "mean swap on N", "step N", "freeze N as z", "drop N", "balance N"} {
			want(t, d, strings.ReplaceAll(line, "N", name), "refused 222")
		}
	}
}

func wantRun(t *testing.T, script, all string, line int, e api.Errno) {
	t.Helper()
	got, gotLine, gotE := desk.Run(exampleTexts(), script)
	if got != all || gotLine != line || gotE != e {
		t.Errorf("Run(%.200q), %d bytes: %.300q, %d, %d, want %.300q, %d, %d", script, len(script), got, gotLine, gotE, all, line, e)
	}
}

// P2303: how long a script may be.
func TestMaxScript(t *testing.T) {
	line := "#" + strings.Repeat("x", 98) + "\n"
	script := strings.Repeat(line, 655) // 65500 bytes
	wantRun(t, script+"book\n"+strings.Repeat(" ", 31), "today 0\n", 0, api.OK)
	wantRun(t, script+"book\n"+strings.Repeat(" ", 32), "", 0, api.ErrLong)
	wantRun(t, strings.Repeat(" ", 65537), "", 0, api.ErrLong)
	wantRun(t, strings.Repeat(" ", 65536), "", 1, api.ErrLong) // the line is too long
	wantRun(t, "flush\n"+strings.Repeat(line, 656), "", 0, api.ErrLong)
	wantRun(t, "flush\n"+strings.Repeat(line, 655), "", 1, api.ErrCommand)
}

// P2303: how many lines, and what is a line.
func TestMaxLines(t *testing.T) {
	for _, c := range []struct {
		script string
		line   int
		e      api.Errno
	}{
		{strings.Repeat("\n", 2000), 0, api.OK},
		{strings.Repeat("\n", 2001), 0, api.ErrLong},
		{strings.Repeat("\n", 1999) + "#", 0, api.OK},
		{strings.Repeat("\n", 1999) + "#\n", 0, api.OK},
		{strings.Repeat("\n", 1999) + "#\n\n", 0, api.ErrLong},
		{strings.Repeat("\n", 2000) + "#", 0, api.ErrLong},
		{strings.Repeat("\n", 2000) + " ", 0, api.ErrLong},
		{"x" + strings.Repeat("\n", 2000), 1, api.ErrCommand},
		{"x" + strings.Repeat("\n", 2001), 0, api.ErrLong},
		{strings.Repeat("\n", 1999) + "x", 2000, api.ErrCommand},
		{strings.Repeat("\n", 1999) + "x\n", 2000, api.ErrCommand},
		{strings.Repeat("\n", 2000) + "x", 0, api.ErrLong},
		{"", 0, api.OK}, {"\n", 0, api.OK}, {" ", 0, api.OK}, {"x", 1, api.ErrCommand}, {"\nx", 2, api.ErrCommand}, {"x\n", 1, api.ErrCommand}, {"\r\n", 1, api.ErrCommand}, {"\n\n\nx\n\ny", 4, api.ErrCommand},
	} {
		wantRun(t, c.script, "", c.line, c.e)
	}
	wantRun(t, strings.Repeat("book\n", 2000), strings.Repeat("today 0\n", 2000), 0, api.OK)
	wantRun(t, strings.Repeat("book\n", 2001), "", 0, api.ErrLong)
}

// P2303: all lines are looked at ahead of playing any; what is refused ends nothing.
func TestRunLooksAhead(t *testing.T) {
	wantRun(t, "book\nday\nbook\ndrop x\nday\nrun p on t\nbook", "today 0\ntoday 1\nrefused 222\nrefused 222\ntoday 2\n", 0, api.OK)
	wantRun(t, "book\nday\nbook\ndrop x\nday\nrun p on t\nbook\nrun p t", "", 8, api.ErrCommand)
	wantRun(t, "book\nstep m 00\n"+strings.Repeat("x", 201), "", 2, api.ErrCommand)
	wantRun(t, "book\n"+strings.Repeat("x", 201)+"\nstep m 00", "", 2, api.ErrLong)
	// Also ahead of telling too much.
	script := strings.Repeat("print swap\n", 1999)
	if all, line, e := desk.Run([]api.File{{Name: "swap", Text: printing(t, 65536)}}, script+"x"); all != "" || line != 2000 || e != api.ErrCommand {
		t.Errorf("%d bytes, %d, %d", len(all), line, e)
	}
}

// printing: the text of a deal that is printed with so many bytes.
func printing(t *testing.T, size int) string {
	t.Helper()
	const around = len("deal  {\n  start 2026-01-05;\n  contract zero;\n}\n")
	for length := 1; length <= 9; length++ {
		if left := size - around - length; left >= 0 && left%9 == 0 {
			return fmt.Sprintf("deal %s {start 2026-01-05; contract zero%s;}", strings.Repeat("x", length), strings.Repeat(" and zero", left/9))
		}
	}
	t.Fatalf("nothing is printed with %d bytes", size)
	return ""
}

// P2303: as much as a script may tell, and a byte more.
func TestMaxTold(t *testing.T) {
	t.Parallel()
	files := []api.File{{Name: "most", Text: printing(t, 65536)}, {Name: "half", Text: printing(t, 32768)}, {Name: "more", Text: printing(t, 32769)}, {Name: "few", Text: printing(t, 65527)}}
	told := func(script string) (int, int, api.Errno) {
		all, line, e := desk.Run(files, script)
		return len(all), line, e
	}
	full := strings.Repeat("print most\n", 128)
	almost := strings.Repeat("print most\n", 127)
	for _, c := range []struct {
		script       string
		length, line int
		e            api.Errno
	}{
		{full + "# nothing\nledger\nday\n", 1 << 23, 0, api.OK},
		{full + "# nothing\nledger\nday\n\nopen p0 as", 0, 133, api.ErrCommand},
		{almost + "print half\nprint more\nday\nbook", 0, 129, api.ErrLong}, // a byte too much
		{almost + "print few\nbook", 1<<23 - 1, 0, api.OK},                  // 9 bytes are left, 8 are told
		{full + "\n\nbook\nbook", 0, 131, api.ErrLong},
		{"day\nbook\n" + full, 0, 130, api.ErrLong},
	} {
		if length, line, e := told(c.script); length != c.length || line != c.line || e != c.e {
			t.Errorf("%d bytes of a script: %d bytes, %d, %d, want %d, %d, %d", len(c.script), length, line, e, c.length, c.line, c.e)
		}
	}
	// A line of so many bytes has its line feed with it.
	d := made(t, files)
	for range 3 {
		if lines := done(t, d, "print most"); len(lines) != 4 || len(strings.Join(lines, "\n"))+1 != 65536 {
			t.Fatalf("%d lines", len(lines))
		}
	}
}
