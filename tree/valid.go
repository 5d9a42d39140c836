package tree

import (
	"math"

	"payoff/api"
	"payoff/cal"
	"payoff/lex"
)

// Sorts of names that a part of a deal may have.
const (
	noName = iota
	smallName
	capitalName
	currency
)

const (
	anyNumber = -1
	mostUnits = 999 // of a tenor
)

// exprForm tells what an expression of an operator has; what it does not have is zero.
type exprForm struct {
	name    int
	mostNum int
	dates   int
	kids    int
}

var exprForms = [...]exprForm{
	api.XNum:   {mostNum: math.MaxInt},
	api.XTrue:  {},
	api.XFalse: {},
	api.XName:  {name: smallName},
	api.XObs:   {name: capitalName, mostNum: math.MaxInt},
	api.XDay:   {},
	api.XDate:  {dates: 1},
	api.XThird: {dates: 2},
	api.XNeg:   {kids: 1},
	api.XNot:   {kids: 1},
	api.XAdd:   {kids: 2},
	api.XSub:   {kids: 2},
	api.XMul:   {kids: 2},
	api.XDiv:   {kids: 2},
	api.XMod:   {kids: 2},
	api.XLt:    {kids: 2},
	api.XLe:    {kids: 2},
	api.XGt:    {kids: 2},
	api.XGe:    {kids: 2},
	api.XEq:    {kids: 2},
	api.XNe:    {kids: 2},
	api.XAnd:   {kids: 2},
	api.XOr:    {kids: 2},
	api.XIf:    {kids: 3},
	api.XMin:   {kids: 2},
	api.XMax:   {kids: 2},
	api.XAbs:   {kids: 1},
	api.XRatio: {kids: 3, mostNum: api.HalfEven},
	api.XCall:  {name: smallName, kids: anyNumber},
}

// conForm tells what a contract of a kind has; what it does not have is zero.
type conForm struct {
	name, loop, cur int
	mostNum         int
	dated, ranged   bool
	exprs, kids     int
}

var conForms = [...]conForm{
	api.CZero:  {},
	api.CPay:   {cur: currency, exprs: 1},
	api.CGive:  {kids: 1},
	api.CScale: {exprs: 1, kids: 1},
	api.CDelay: {mostNum: math.MaxInt, kids: 1},
	api.CAt:    {dated: true, kids: 1},
	api.CAnd:   {kids: 2},
	api.CIf:    {exprs: 1, kids: 2},
	api.CLet:   {name: smallName, exprs: 1, kids: 1},
	api.CFor:   {name: smallName, ranged: true, kids: 1},
	api.CAccum: {name: smallName, loop: smallName, ranged: true, exprs: 2, kids: 1},
	api.CWhen:  {mostNum: math.MaxInt, exprs: 1, kids: 2},
}

// Valid tells whether a deal is one that Parse gives for some text.
func Valid(d api.Deal) api.Errno {
	if !isDeal(d) {
		return api.ErrArg
	}
	return api.OK
}

func isDeal(d api.Deal) bool {
	return lex.Small(d.Name) && isDate(d.Start) && every(d.Holidays, isDate) && every(d.Names, lex.Capital) &&
		every(d.Defs, isDef) && isCon(d.Body)
}

func every[T any](list []T, fits func(T) bool) bool {
	for _, item := range list {
		if !fits(item) {
			return false
		}
	}
	return true
}

func isDate(d api.Date) bool {
	_, e := cal.Day(d)
	return e == api.OK
}

func isDef(d api.Def) bool {
	return lex.Small(d.Name) && every(d.Params, lex.Small) && isExpr(d.Body)
}

func isCon(c api.Con) bool {
	return every(parts(&c, conKids), fitsCon)
}

func isExpr(e api.Expr) bool {
	return every(parts(&e, exprKids), fitsExpr)
}

// fitsCon looks at a contract, but not at those under it.
func fitsCon(c *api.Con) bool {
	if c.Kind < api.CZero || c.Kind > api.CWhen {
		return false
	}
	form := conForms[c.Kind]
	return fitsName(c.Name, form.name) && fitsName(c.Loop, form.loop) && fitsName(c.Cur, form.cur) &&
		fitsNum(c.Num, form.mostNum) && fitsDate(c.Date, form.dated) && fitsRange(c.Range, form.ranged) &&
		len(c.Kids) == form.kids && len(c.Exprs) == form.exprs && every(c.Exprs, isExpr)
}

// fitsExpr looks at an expression, but not at those under it.
func fitsExpr(e *api.Expr) bool {
	if e.Op < api.XNum || e.Op > api.XCall {
		return false
	}
	form := exprForms[e.Op]
	return fitsName(e.Name, form.name) && fitsNum(e.Num, form.mostNum) &&
		(form.kids == anyNumber || len(e.Kids) == form.kids) && len(e.Dates) == form.dates && every(e.Dates, isDate)
}

func fitsName(name string, sort int) bool {
	switch sort {
	case smallName:
		return lex.Small(name)
	case capitalName:
		return lex.Capital(name)
	case currency:
		return lex.Currency(name)
	}
	return name == ""
}

func fitsNum(num, most int) bool {
	return num >= 0 && num <= most
}

func fitsDate(d api.Date, dated bool) bool {
	if !dated {
		return d == api.Date{}
	}
	return isDate(d)
}

func fitsRange(r api.Range, ranged bool) bool {
	switch {
	case !ranged:
		return r == api.Range{}
	case r.Kind == api.RangeDays:
		only := api.Range{Kind: r.Kind, Lo: r.Lo, Hi: r.Hi, By: r.By}
		return r == only && r.Lo >= 0 && r.Hi >= 0 && r.By >= 1
	case r.Kind == api.RangeDates:
		only := api.Range{Kind: r.Kind, From: r.From, To: r.To, Ten: r.Ten, Conv: r.Conv}
		return r == only && isDate(r.From) && isDate(r.To) && isTenor(r.Ten) &&
			r.Conv >= api.Unadjusted && r.Conv <= api.Preceding
	}
	return false
}

func isTenor(t api.Tenor) bool {
	return t.N >= 1 && t.N <= mostUnits && t.Unit >= api.UnitDay && t.Unit <= api.UnitYear
}
