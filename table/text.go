package table

import (
	"strconv"
	"strings"

	"payoff/api"
	"payoff/num"
)

const (
	// headWord begins the head.
	headWord = "day"
	// holeWord stands for a missing cell.
	holeWord = "-"
)

// Print writes a table.
func Print(t api.Table) (string, api.Errno) {
	if e := Valid(t); e != api.OK {
		return "", e
	}
	text := []byte(headWord)
	for _, name := range t.Names {
		text = append(text, ' ')
		text = append(text, name...)
	}
	text = append(text, '\n')
	for day, row := range t.Rows {
		text = strconv.AppendInt(text, int64(day), 10)
		for _, cell := range row {
			text = append(text, ' ')
			text = append(text, cellWord(cell)...)
		}
		text = append(text, '\n')
		if len(text) > api.MaxTable {
			return "", api.ErrLong
		}
	}
	return string(text), api.OK
}

// Parse reads a table's text; with an error the place.
func Parse(text string) (api.Table, int, api.Errno) {
	if len(text) > api.MaxTable {
		return api.Table{}, 0, api.ErrLong
	}
	r := reader{text: text, known: map[string]struct{}{}}
	hasHead := false
lines:
	for {
		word, e := r.word(), api.OK
		switch {
		case word == "" && r.nextLine():
			continue lines
		case word == "":
			break lines
		case !hasHead:
			hasHead = true
			e = r.head(word)
		default:
			e = r.row(word)
		}
		if e != api.OK {
			return api.Table{}, r.place, e
		}
	}
	if !hasHead {
		return api.Table{}, len(text), api.ErrCell
	}
	return r.table, 0, api.OK
}

func cellWord(cell api.Cell) string {
	if !cell.Has {
		return holeWord
	}
	// 0 decimals are never refused.
	word, _ := num.Text(cell.V, 0)
	return word
}

// reader goes through a text word by word.
type reader struct {
	text  string
	at    int                 // behind what is read
	place int                 // of the word that was read last
	known map[string]struct{} // the names so far
	table api.Table
}

// word tells the line's next word; "" at its end, whose place it then has.
func (r *reader) word() string {
	for r.at < len(r.text) && isBlank(r.text[r.at]) {
		r.at++
	}
	if r.at < len(r.text) && r.text[r.at] == '#' {
		r.passComment()
	}
	r.place = r.at
	for r.at < len(r.text) && isOfWord(r.text[r.at]) {
		r.at++
	}
	return r.text[r.place:r.at]
}

func (r *reader) passComment() {
	length := strings.IndexByte(r.text[r.at:], '\n')
	if length < 0 {
		length = len(r.text) - r.at
	}
	r.at += length
}

// nextLine goes on from the end of a line to the line behind it, if there is one.
func (r *reader) nextLine() bool {
	if r.at == len(r.text) {
		return false
	}
	r.at++
	return true
}

// head reads the names behind the line's first word.
func (r *reader) head(first string) api.Errno {
	if first != headWord {
		return api.ErrCell
	}
	for name := r.word(); name != ""; name = r.word() {
		if len(r.known) == api.MaxNames {
			return api.ErrLong
		}
		if _, twice := r.known[name]; twice || !isCapitalName(name) {
			return api.ErrName
		}
		// A piece of the text would keep all of it.
		name = strings.Clone(name)
		r.known[name] = struct{}{}
		r.table.Names = append(r.table.Names, name)
	}
	return api.OK
}

// row reads the cells behind the word of the day, and lays missing ones where days were passed over.
func (r *reader) row(first string) api.Errno {
	day, ok := dayOf(first)
	if !ok || day < len(r.table.Rows) {
		return api.ErrCell
	}
	if day >= api.MaxRows {
		return api.ErrLong
	}
	var cells [api.MaxNames]api.Cell
	width := len(r.table.Names)
	for i := range width {
		if cells[i], ok = cellOf(r.word()); !ok {
			return api.ErrCell
		}
	}
	if r.word() != "" {
		return api.ErrCell
	}
	for len(r.table.Rows) < day {
		r.table.Rows = append(r.table.Rows, newRow(nil, width))
	}
	r.table.Rows = append(r.table.Rows, newRow(cells[:width], width))
	return api.OK
}

// dayOf reads the word of a day; MaxRows stands for all numbers from there on, so that no word is too long.
func dayOf(word string) (int, bool) {
	if word[0] == '0' && len(word) > 1 {
		return 0, false
	}
	day := 0
	for i := range len(word) {
		if !isDigit(word[i]) {
			return 0, false
		}
		day = min(10*day+int(word[i]-'0'), api.MaxRows)
	}
	return day, true
}

// cellOf reads the word of a cell; "", where there is none, is no cell.
func cellOf(word string) (api.Cell, bool) {
	if word == holeWord {
		return api.Cell{}, true
	}
	v, e := num.Parse(word, 0)
	if e != api.OK {
		return api.Cell{}, false
	}
	return api.Cell{Has: true, V: v}, true
}

func isBlank(c byte) bool {
	return c == ' ' || c == '\t' || c == '\r'
}

func isOfWord(c byte) bool {
	return !isBlank(c) && c != '#' && c != '\n'
}
