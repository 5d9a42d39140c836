package tree

import (
	"payoff/api"
	"payoff/lex"
)

// Kinds of what stands behind a text's tokens: its end, or a piece that is no token.
const (
	kindEnd   = 0
	kindWrong = -1
)

// row is a text's tokens, and how many of them have been read. What stands behind the tokens is one more in the row: no rule goes past it, as it is nothing that a rule asks for.
type row struct {
	tokens []api.Token
	read   int
}

// refusal is what the parser gives up with: the place of a token that cannot stand there.
type refusal int

func rowOf(text string) row {
	tokens, place, e := lex.Scan(text)
	last := api.Token{Kind: kindEnd, At: len(text)}
	if e != api.OK {
		last = api.Token{Kind: kindWrong, At: place}
	}
	return row{tokens: append(tokens, last)}
}

// placeOf tells the place with which the parser gave up, if it did. Any other panic is not the parser's, and goes on.
func placeOf(cause any) (int, bool) {
	switch cause := cause.(type) {
	case nil:
		return 0, false
	case refusal:
		return int(cause), true
	default:
		panic(cause)
	}
}

// reached tells the token that comes next.
func (r *row) reached() *api.Token {
	return &r.tokens[r.read]
}

func (r *row) giveUp() {
	panic(refusal(r.reached().At))
}

// is tells whether a keyword or a mark comes next: no token of another kind has such a text.
func (r *row) is(text string) bool {
	return r.reached().Text == text
}

// skip goes past a keyword or a mark, if it comes next, and tells whether it did.
func (r *row) skip(text string) bool {
	if !r.is(text) {
		return false
	}
	r.read++
	return true
}

// must goes past these keywords and marks.
func (r *row) must(texts ...string) {
	for _, text := range texts {
		if !r.skip(text) {
			r.giveUp()
		}
	}
}

// mustEnd gives up if anything is left.
func (r *row) mustEnd() {
	if r.reached().Kind != kindEnd {
		r.giveUp()
	}
}

// take goes past a token of that kind.
func (r *row) take(kind int) *api.Token {
	token := r.reached()
	if token.Kind != kind {
		r.giveUp()
	}
	r.read++
	return token
}

func (r *row) date() api.Date {
	return r.take(api.TokDate).Date
}

// number goes past a number that is not below the least one.
func (r *row) number(least int) int {
	if r.reached().Num < least {
		r.giveUp()
	}
	return r.take(api.TokNumber).Num
}

// name goes past a name of that sort.
func (r *row) name(isName func(string) bool) string {
	token := r.reached()
	if !isName(token.Text) {
		r.giveUp()
	}
	r.read++
	return token.Text
}

func (r *row) small() string {
	return r.name(lex.Small)
}

func (r *row) capital() string {
	return r.name(lex.Capital)
}
