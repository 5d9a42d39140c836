package tree_test

import (
	"regexp"
	"slices"
	"strings"
	"testing"

	"payoff/api"
)

// chapterGrammar is the chapter's, word for word.
const chapterGrammar = `
deal  = "deal" lname "{" "start" date ";" [ "holidays" date { "," date } ";" ]
        [ "observe" uname { "," uname } ";" ] { def } "contract" con ";" "}"
def   = "def" lname "(" [ lname { "," lname } ] ")" "=" expr ";"
con   = prim { "and" prim }
prim  = "zero" | "pay" "(" cur "," expr ")" | "give" prim | "scale" "(" expr ")" prim
      | "delay" "(" number ")" prim | "at" "(" date ")" prim | "if" "(" expr ")" prim "else" prim
      | "let" lname "=" expr "in" prim | "for" lname "in" range prim
      | "accumulate" lname "=" expr "for" lname "in" range "by" expr "then" prim
      | "when" "(" expr ")" "within" number prim "else" prim | "{" con "}"
range = number ".." number [ "step" number ]
      | "every" tenor "from" date "to" date [ "following" | "modified" | "preceding" ]
expr  = or [ "?" expr ":" expr ]
or    = and { "||" and }
and   = cmp { "&&" cmp }
cmp   = sum [ ( "<" | "<=" | ">" | ">=" | "==" | "!=" ) sum ]
sum   = prod { ( "+" | "-" ) prod }
prod  = un { ( "*" | "/" | "%" ) un }
un    = ( "-" | "!" ) un | atom
atom  = number | "true" | "false" | "day" | date | lname | lname "(" [ expr { "," expr } ] ")"
      | uname [ "[" "-" number "]" ] | "(" expr ")"
      | ( "min" | "max" ) "(" expr "," expr ")" | "abs" "(" expr ")"
      | "ratio" "(" expr "," expr "," expr "," mode ")" | "thirty" "(" date "," date ")"
mode  = "down" | "floor" | "ceil" | "half_up" | "half_even"
`

var (
	chapterKeywords = strings.Fields("deal start holidays observe def contract zero pay give scale delay at if else let in for every from to step following modified preceding accumulate by then when within and true false day min max abs ratio thirty down floor ceil half_up half_even")
	currencyForm    = regexp.MustCompile(`\A[A-Z]{3}\z`)
	ebnfForm        = regexp.MustCompile(`"[^"]*"|[a-z0-9]+|[][(){}|=]`)
)

// stands tells whether a token is what a terminal of the grammar asks for.
func stands(token api.Token, terminal string) bool {
	switch terminal {
	case "lname":
		return token.Kind == api.TokWord && !slices.Contains(chapterKeywords, token.Text)
	case "uname":
		return token.Kind == api.TokUpper
	case "cur":
		return token.Kind == api.TokUpper && currencyForm.MatchString(token.Text)
	case "number":
		return token.Kind == api.TokNumber
	case "number1":
		return token.Kind == api.TokNumber && token.Num >= 1
	case "number2":
		return token.Kind == api.TokNumber && token.Num >= 2
	case "date":
		return token.Kind == api.TokDate
	case "tenor":
		return token.Kind == api.TokTenor
	}
	return terminal == `"`+token.Text+`"`
}

// grammar has rules of plain symbols: options, repetitions and groups have become rules of their own.
type grammar struct {
	rules    map[string][][]string
	nullable map[string]bool
}

// readGrammar reads a text of rules.
func readGrammar() *grammar {
	text := strings.Replace(chapterGrammar, `"step" number`, `"step" number2`, 1)
	text = strings.Replace(text, `"[" "-" number "]"`, `"[" "-" number1 "]"`, 1)
	g := &grammar{rules: map[string][][]string{}, nullable: map[string]bool{}}
	words := ebnfForm.FindAllString(text, -1)
	for at := 0; at < len(words); {
		name, end := words[at], at+2
		for end < len(words) && (end+1 == len(words) || words[end+1] != "=") {
			end++
		}
		g.rule(name, words[at+2:end])
		at = end
	}
	return g
}

// rule adds a rule for name; what stands in brackets gets a name that tells where it stands.
func (g *grammar) rule(name string, words []string) {
	alternative := []string{}
	for at := 0; at < len(words); at++ {
		switch word := words[at]; word {
		case "|":
			g.rules[name] = append(g.rules[name], alternative)
			alternative = []string{}
		case "[", "{", "(":
			end := at + matching(words[at:])
			inner := name + "/" + string(rune('a'+len(g.rules)%26)) + string(rune('a'+len(g.rules)/26))
			g.rules[inner] = nil
			g.rule(inner, words[at+1:end])
			if word == "{" {
				g.rules[inner] = [][]string{append([]string{inner}, g.rules[inner][0]...)}
			}
			if word != "(" {
				g.rules[inner] = append(g.rules[inner], nil)
				g.nullable[inner] = true
			}
			alternative = append(alternative, inner)
			at = end
		default:
			alternative = append(alternative, word)
		}
	}
	g.rules[name] = append(g.rules[name], alternative)
}

// matching tells where the bracket is closed with which words begin.
func matching(words []string) int {
	depth := 0
	for at, word := range words {
		switch word {
		case "[", "{", "(":
			depth++
		case "]", "}", ")":
			depth--
		}
		if depth == 0 {
			return at
		}
	}
	return -1
}

// item is a rule's alternative that has been read up to a symbol, and where it began.
type item struct {
	name             string
	alternative, dot int
	from             int
}

// chart tells, by Earley's way, whether any text of the grammar's begins with the tokens that it was fed with.
type chart struct {
	g    *grammar
	root string
	sets [][]item
	fed  []string
}

func newChart(g *grammar, root string) *chart {
	c := &chart{g: g, root: root}
	var first []item
	for i := range g.rules[root] {
		first = append(first, item{name: root, alternative: i})
	}
	c.push(first)
	return c
}

// next tells the symbol behind the dot; "" at the end.
func (c *chart) next(x item) string {
	symbols := c.g.rules[x.name][x.alternative]
	if x.dot == len(symbols) {
		return ""
	}
	return symbols[x.dot]
}

// push adds a set, with all that follows from its items.
func (c *chart) push(set []item) {
	here := len(c.sets)
	known := map[item]bool{}
	for _, x := range set {
		known[x] = true
	}
	add := func(x item) {
		if !known[x] {
			known[x] = true
			set = append(set, x)
		}
	}
	for i := 0; i < len(set); i++ {
		x := set[i]
		symbol := c.next(x)
		if symbol == "" {
			ahead := set
			if x.from < here {
				ahead = c.sets[x.from]
			}
			for _, y := range ahead {
				if c.next(y) == x.name {
					y.dot++
					add(y)
				}
			}
			continue
		}
		for k := range c.g.rules[symbol] {
			add(item{name: symbol, alternative: k, from: here})
		}
		if c.g.nullable[symbol] {
			x.dot++
			add(x)
		}
	}
	c.sets = append(c.sets, set)
}

// feed tells whether the token can stand there; if it can't, nothing has changed.
func (c *chart) feed(token api.Token) bool {
	var moved []item
	for _, x := range c.sets[len(c.sets)-1] {
		if symbol := c.next(x); symbol != "" && c.g.rules[symbol] == nil && stands(token, symbol) {
			x.dot++
			moved = append(moved, x)
		}
	}
	if len(moved) == 0 {
		return false
	}
	c.push(moved)
	c.fed = append(c.fed, token.Text)
	return true
}

// back takes the last tokens away, so that so many are left.
func (c *chart) back(tokens int) {
	c.sets, c.fed = c.sets[:tokens+1], c.fed[:tokens]
}

// feedAll feeds the tokens alone, and tells which of them cannot stand there; -1, if all can.
func (c *chart) feedAll(tokens []api.Token) int {
	known := 0
	for known < min(len(tokens), len(c.fed)) && tokens[known].Text == c.fed[known] {
		known++
	}
	c.back(known)
	for i := known; i < len(tokens); i++ {
		if !c.feed(tokens[i]) {
			return i
		}
	}
	return -1
}

// whole tells whether the tokens are a text of the grammar's.
func (c *chart) whole() bool {
	for _, x := range c.sets[len(c.sets)-1] {
		if x.name == c.root && x.from == 0 && c.next(x) == "" {
			return true
		}
	}
	return false
}

func TestGrammarIsRead(t *testing.T) {
	g := readGrammar()
	for _, name := range strings.Fields("deal def con prim range expr or and cmp sum prod un atom mode") {
		if g.rules[name] == nil {
			t.Errorf("no rule %s", name)
		}
	}
	if len(g.rules["prim"]) != 12 || len(g.rules["atom"]) != 13 || len(g.rules["mode"]) != 5 || g.rules["number"] != nil {
		t.Errorf("%v", g.rules)
	}
}
