package tree_test

import (
	"fmt"
	"slices"
	"strings"

	"payoff/api"
)

var (
	levels = [][]string{{"||"}, {"&&"}, {"<", "<=", ">", ">=", "==", "!="}, {"+", "-"}, {"*", "/", "%"}}
	opOf   = map[string]int{
		"||": api.XOr, "&&": api.XAnd, "<": api.XLt, "<=": api.XLe, ">": api.XGt, ">=": api.XGe, "==": api.XEq, "!=": api.XNe,
		"+": api.XAdd, "-": api.XSub, "*": api.XMul, "/": api.XDiv, "%": api.XMod,
		"min": api.XMin, "max": api.XMax, "abs": api.XAbs, "ratio": api.XRatio, "true": api.XTrue, "false": api.XFalse, "day": api.XDay,
	}
	modeOf = []string{"down", "floor", "ceil", "half_up", "half_even"}
	convOf = []string{"", "following", "modified", "preceding"}
	unitOf = "?dwmy"
)

// eachOpen calls f with each token that stands in no brackets, from the left, till f is content.
func eachOpen(ts []api.Token, f func(int) bool) {
	depth := 0
	for i, token := range ts {
		if strings.Contains(")]}", token.Text) {
			depth--
		}
		if depth == 0 && f(i) {
			return
		}
		if strings.Contains("([{", token.Text) {
			depth++
		}
	}
}

// find tells the first of those tokens with one of the texts; -1, if there is none.
func find(ts []api.Token, texts ...string) int {
	found := -1
	eachOpen(ts, func(i int) bool {
		if slices.Contains(texts, ts[i].Text) {
			found = i
		}
		return found >= 0
	})
	return found
}

// findPartner is like find, but goes past as many as there are openers ahead.
func findPartner(ts []api.Token, partner string, openers ...string) int {
	found, count := -1, 0
	eachOpen(ts, func(i int) bool {
		switch {
		case slices.Contains(openers, ts[i].Text):
			count++
		case ts[i].Text == partner && count > 0:
			count--
		case ts[i].Text == partner:
			found = i
		}
		return found >= 0
	})
	return found
}

// findLastBetween tells the last of those tokens that is one of the operators, and no sign.
func findLastBetween(ts []api.Token, marks []string) int {
	found := -1
	eachOpen(ts, func(i int) bool {
		if i > 0 && slices.Contains(marks, ts[i].Text) && (ts[i-1].Kind != api.TokMark || strings.Contains(")]", ts[i-1].Text)) {
			found = i
		}
		return false
	})
	return found
}

// split cuts at the commas.
func split(ts []api.Token) [][]api.Token {
	if len(ts) == 0 {
		return nil
	}
	if at := find(ts, ","); at >= 0 {
		return append([][]api.Token{ts[:at]}, split(ts[at+1:])...)
	}
	return [][]api.Token{ts}
}

func x(op int, kids ...api.Expr) api.Expr { return api.Expr{Op: op, Kids: kids} }

func plainExprs(rows [][]api.Token) []api.Expr {
	var exprs []api.Expr
	for _, ts := range rows {
		exprs = append(exprs, plainExpr(ts))
	}
	return exprs
}

// plainExpr reads tokens that are an expression: it cuts them at the loosest operator, then reads both sides.
func plainExpr(ts []api.Token) api.Expr {
	if at := find(ts, "?"); at >= 0 {
		colon := at + 1 + findPartner(ts[at+1:], ":", "?")
		return x(api.XIf, plainExpr(ts[:at]), plainExpr(ts[at+1:colon]), plainExpr(ts[colon+1:]))
	}
	for _, marks := range levels {
		if at := findLastBetween(ts, marks); at >= 0 {
			return x(opOf[ts[at].Text], plainExpr(ts[:at]), plainExpr(ts[at+1:]))
		}
	}
	first := ts[0]
	switch {
	case first.Text == "-":
		return x(api.XNeg, plainExpr(ts[1:]))
	case first.Text == "!":
		return x(api.XNot, plainExpr(ts[1:]))
	case first.Text == "(":
		return plainExpr(ts[1 : len(ts)-1])
	case first.Kind == api.TokNumber:
		return api.Expr{Op: api.XNum, Num: first.Num}
	case first.Kind == api.TokDate:
		return api.Expr{Op: api.XDate, Dates: []api.Date{first.Date}}
	case first.Kind == api.TokUpper && len(ts) > 1:
		return api.Expr{Op: api.XObs, Name: first.Text, Num: ts[3].Num}
	case first.Kind == api.TokUpper:
		return api.Expr{Op: api.XObs, Name: first.Text}
	case len(ts) == 1 && opOf[first.Text] != 0:
		return api.Expr{Op: opOf[first.Text]}
	case len(ts) == 1:
		return api.Expr{Op: api.XName, Name: first.Text}
	}
	return plainCall(first.Text, split(ts[2:len(ts)-1]))
}

func plainCall(name string, args [][]api.Token) api.Expr {
	switch {
	case name == "thirty":
		return api.Expr{Op: api.XThird, Dates: []api.Date{args[0][0].Date, args[1][0].Date}}
	case name == "ratio":
		return api.Expr{Op: api.XRatio, Num: slices.Index(modeOf, args[3][0].Text), Kids: plainExprs(args[:3])}
	case opOf[name] != 0:
		return x(opOf[name], plainExprs(args)...)
	}
	return api.Expr{Op: api.XCall, Name: name, Kids: plainExprs(args)}
}

// plainCon reads tokens that are a contract.
func plainCon(ts []api.Token) api.Con {
	last := -1
	eachOpen(ts, func(i int) bool {
		if ts[i].Text == "and" {
			last = i
		}
		return false
	})
	if last >= 0 {
		return api.Con{Kind: api.CAnd, Kids: []api.Con{plainCon(ts[:last]), plainCon(ts[last+1:])}}
	}
	behind := 1 + find(ts[1:], ")") // of what stands in parentheses behind the first word
	inside := func() []api.Expr { return plainExprs([][]api.Token{ts[2:behind]}) }
	kids := func(from int) []api.Con { return []api.Con{plainCon(ts[from:])} }
	branches := func(from int) []api.Con {
		other := from + findPartner(ts[from:], "else", "if", "when")
		return []api.Con{plainCon(ts[from:other]), plainCon(ts[other+1:])}
	}
	switch ts[0].Text {
	case "zero":
		return api.Con{Kind: api.CZero}
	case "pay":
		return api.Con{Kind: api.CPay, Cur: ts[2].Text, Exprs: plainExprs([][]api.Token{ts[4 : len(ts)-1]})}
	case "give":
		return api.Con{Kind: api.CGive, Kids: kids(1)}
	case "scale":
		return api.Con{Kind: api.CScale, Exprs: inside(), Kids: kids(behind + 1)}
	case "delay":
		return api.Con{Kind: api.CDelay, Num: ts[2].Num, Kids: kids(4)}
	case "at":
		return api.Con{Kind: api.CAt, Date: ts[2].Date, Kids: kids(4)}
	case "if":
		return api.Con{Kind: api.CIf, Exprs: inside(), Kids: branches(behind + 1)}
	case "when":
		return api.Con{Kind: api.CWhen, Num: ts[behind+2].Num, Exprs: inside(), Kids: branches(behind + 3)}
	case "let":
		in := find(ts, "in")
		return api.Con{Kind: api.CLet, Name: ts[1].Text, Exprs: plainExprs([][]api.Token{ts[3:in]}), Kids: kids(in + 1)}
	case "for":
		r, length := plainRange(ts[3:])
		return api.Con{Kind: api.CFor, Name: ts[1].Text, Range: r, Kids: kids(3 + length)}
	case "accumulate":
		loop, by, then := find(ts, "for"), find(ts, "by"), find(ts, "then")
		r, _ := plainRange(ts[loop+3:])
		exprs := plainExprs([][]api.Token{ts[3:loop], ts[by+1 : then]})
		return api.Con{Kind: api.CAccum, Name: ts[1].Text, Loop: ts[loop+1].Text, Range: r, Exprs: exprs, Kids: kids(then + 1)}
	}
	return plainCon(ts[1 : len(ts)-1])
}

// plainRange reads the range with which tokens begin, and tells how many it has.
func plainRange(ts []api.Token) (api.Range, int) {
	if ts[0].Text == "every" {
		r := api.Range{Kind: api.RangeDates, Ten: ts[1].Ten, From: ts[3].Date, To: ts[5].Date}
		if r.Conv = max(0, slices.Index(convOf, ts[6].Text)); r.Conv > 0 {
			return r, 7
		}
		return r, 6
	}
	r := api.Range{Kind: api.RangeDays, Lo: ts[0].Num, Hi: ts[2].Num, By: 1}
	if ts[3].Text == "step" {
		r.By = ts[4].Num
		return r, 5
	}
	return r, 3
}

// plainDeal reads tokens that are a deal.
func plainDeal(ts []api.Token) api.Deal {
	d := api.Deal{Name: ts[1].Text, Start: ts[4].Date}
	for ts = ts[6:]; ts[0].Text != "contract"; {
		end := slices.IndexFunc(ts, func(token api.Token) bool { return token.Text == ";" })
		switch ts[0].Text {
		case "holidays":
			for _, item := range split(ts[1:end]) {
				d.Holidays = append(d.Holidays, item[0].Date)
			}
		case "observe":
			for _, item := range split(ts[1:end]) {
				d.Names = append(d.Names, item[0].Text)
			}
		case "def":
			body := find(ts, "=") + 1
			def := api.Def{Name: ts[1].Text, Body: plainExpr(ts[body:end])}
			for _, item := range split(ts[3 : body-2]) {
				def.Params = append(def.Params, item[0].Text)
			}
			d.Defs = append(d.Defs, def)
		}
		ts = ts[end+1:]
	}
	d.Body = plainCon(ts[1 : len(ts)-2])
	return d
}

// teller writes a tree by the chapter's table: all parts in parentheses and braces, or only those that must be. Of trees that are not valid it tells what it can.
type teller struct {
	all bool
}

func levelOf(op int) int {
	switch {
	case op == api.XIf:
		return 1
	case op == api.XNeg || op == api.XNot:
		return 7
	}
	for i, marks := range levels {
		for _, mark := range marks {
			if opOf[mark] == op {
				return i + 2
			}
		}
	}
	return 8
}

func (w teller) kid(e api.Expr, number, least int) string {
	if number >= len(e.Kids) {
		return "?"
	}
	return w.expr(e.Kids[number], least)
}

func (w teller) expr(e api.Expr, least int) string {
	text := w.bare(e)
	if w.all || levelOf(e.Op) < least {
		return "(" + text + ")"
	}
	return text
}

func (w teller) bare(e api.Expr) string {
	for mark, op := range opOf {
		if op != e.Op {
			continue
		}
		switch level := levelOf(op); {
		case level == 4:
			return w.kid(e, 0, 5) + " " + mark + " " + w.kid(e, 1, 5)
		case level < 7:
			return w.kid(e, 0, level) + " " + mark + " " + w.kid(e, 1, level+1)
		case op == api.XRatio:
			return mark + "(" + w.list(e.Kids) + ", " + wordAt(modeOf, e.Num) + ")"
		case op == api.XMin || op == api.XMax || op == api.XAbs:
			return mark + "(" + w.list(e.Kids) + ")"
		}
		return mark
	}
	switch e.Op {
	case api.XNum:
		return fmt.Sprint(e.Num)
	case api.XName:
		return e.Name
	case api.XObs:
		if e.Num != 0 {
			return e.Name + "[-" + fmt.Sprint(e.Num) + "]"
		}
		return e.Name
	case api.XDate, api.XThird:
		text := ""
		for i, d := range e.Dates {
			text += strings.Repeat(", ", min(i, 1)) + dateOf(d)
		}
		if e.Op == api.XThird {
			return "thirty(" + text + ")"
		}
		return text
	case api.XNeg:
		return "-" + w.kid(e, 0, 7)
	case api.XNot:
		return "!" + w.kid(e, 0, 7)
	case api.XIf:
		return w.kid(e, 0, 2) + " ? " + w.kid(e, 1, 1) + " : " + w.kid(e, 2, 1)
	case api.XCall:
		return e.Name + "(" + w.list(e.Kids) + ")"
	}
	return "?"
}

func (w teller) list(exprs []api.Expr) string {
	var texts []string
	for _, e := range exprs {
		texts = append(texts, w.expr(e, 1))
	}
	return strings.Join(texts, ", ")
}

func wordAt(words []string, at int) string {
	if at < 0 || at >= len(words) {
		return "?"
	}
	return words[at]
}

func dateOf(d api.Date) string { return fmt.Sprintf("%04d-%02d-%02d", d.Y, d.M, d.D) }

// prim tells a contract where the grammar wants a prim.
func (w teller) prim(c api.Con, number int) string {
	if number >= len(c.Kids) {
		return "?"
	}
	if kid := c.Kids[number]; w.all || kid.Kind == api.CAnd {
		return "{ " + w.con(kid) + " }"
	}
	return w.con(c.Kids[number])
}

func (w teller) con(c api.Con) string {
	e := func(number int) string {
		if number >= len(c.Exprs) {
			return "?"
		}
		return w.expr(c.Exprs[number], 1)
	}
	kid := func(number int) string { return w.prim(c, number) }
	switch c.Kind {
	case api.CZero:
		return "zero"
	case api.CPay:
		return fmt.Sprintf("pay(%s, %s)", c.Cur, e(0))
	case api.CGive:
		return "give " + kid(0)
	case api.CScale:
		return fmt.Sprintf("scale(%s) %s", e(0), kid(0))
	case api.CDelay:
		return fmt.Sprintf("delay(%d) %s", c.Num, kid(0))
	case api.CAt:
		return fmt.Sprintf("at(%s) %s", dateOf(c.Date), kid(0))
	case api.CAnd:
		if len(c.Kids) > 0 && c.Kids[0].Kind == api.CAnd && !w.all {
			return w.con(c.Kids[0]) + " and " + kid(1)
		}
		return kid(0) + " and " + kid(1)
	case api.CIf:
		return fmt.Sprintf("if(%s) %s else %s", e(0), kid(0), kid(1))
	case api.CLet:
		return fmt.Sprintf("let %s = %s in %s", c.Name, e(0), kid(0))
	case api.CFor:
		return fmt.Sprintf("for %s in %s %s", c.Name, rangeOf(c.Range), kid(0))
	case api.CAccum:
		return fmt.Sprintf("accumulate %s = %s for %s in %s by %s then %s", c.Name, e(0), c.Loop, rangeOf(c.Range), e(1), kid(0))
	case api.CWhen:
		return fmt.Sprintf("when(%s) within %d %s else %s", e(0), c.Num, kid(0), kid(1))
	}
	return "?"
}

func rangeOf(r api.Range) string {
	switch {
	case r.Kind == api.RangeDays && r.By == 1:
		return fmt.Sprintf("%d..%d", r.Lo, r.Hi)
	case r.Kind == api.RangeDays:
		return fmt.Sprintf("%d..%d step %d", r.Lo, r.Hi, r.By)
	case r.Kind == api.RangeDates && r.Ten.Unit > 0 && r.Ten.Unit < len(unitOf):
		text := fmt.Sprintf("every %d%c from %s to %s", r.Ten.N, unitOf[r.Ten.Unit], dateOf(r.From), dateOf(r.To))
		if r.Conv != 0 {
			text += " " + wordAt(convOf, r.Conv)
		}
		return text
	}
	return "?"
}

func (w teller) deal(d api.Deal) string {
	text := "deal " + d.Name + " {\n  start " + dateOf(d.Start) + ";\n"
	for i, day := range d.Holidays {
		text += []string{"  holidays ", ", "}[min(i, 1)] + dateOf(day)
	}
	if len(d.Holidays) > 0 {
		text += ";\n"
	}
	if len(d.Names) > 0 {
		text += "  observe " + strings.Join(d.Names, ", ") + ";\n"
	}
	for _, def := range d.Defs {
		text += "  def " + def.Name + "(" + strings.Join(def.Params, ", ") + ") = " + w.expr(def.Body, 1) + ";\n"
	}
	return text + "  contract " + w.con(d.Body) + ";\n}\n"
}
