package tree

import (
	"slices"
	"strings"

	"payoff/api"
)

// piece is a part of a text to be: words as they stand, or a part of a tree that is still to be told in pieces of its own.
type piece struct {
	words string
	expr  *api.Expr
	con   *api.Con
	least int  // the least level that the expression may have without parentheses
	prim  bool // whether an and of contracts stands in braces there
}

// Print writes a deal in its one form.
func Print(d api.Deal) (string, api.Errno) {
	if !isDeal(d) {
		return "", api.ErrArg
	}
	return write(dealPieces(&d))
}

// PrintExpr writes an expression in its one form.
func PrintExpr(e api.Expr) (string, api.Errno) {
	if !isExpr(e) {
		return "", api.ErrArg
	}
	return write([]piece{open(&e)})
}

// write lays pieces one behind the other. Those still to be written stand on a stack, the next one on top: calls within calls would go as deep as the tree.
func write(pieces []piece) (string, api.Errno) {
	var text strings.Builder
	slices.Reverse(pieces)
	for len(pieces) > 0 {
		top := len(pieces) - 1
		next := pieces[top]
		pieces = pieces[:top]
		if inner := next.inner(); len(inner) > 0 {
			slices.Reverse(inner)
			pieces = append(pieces, inner...)
			continue
		}
		if text.Len()+len(next.words) > api.MaxSource {
			return "", api.ErrLong
		}
		text.WriteString(next.words)
	}
	return text.String(), api.OK
}

// inner tells the pieces of a part of a tree; words have none.
func (p piece) inner() []piece {
	switch {
	case p.con != nil && p.prim && p.con.Kind == api.CAnd:
		return around("{ ", conPieces(p.con), " }")
	case p.con != nil:
		return conPieces(p.con)
	case p.expr != nil && levelOf(p.expr.Op) < p.least:
		return around("(", exprPieces(p.expr), ")")
	case p.expr != nil:
		return exprPieces(p.expr)
	}
	return nil
}

func say(words ...string) piece {
	return piece{words: strings.Join(words, "")}
}

// open is an expression that never stands in parentheses, as nothing that could be taken for a part of it is beside it.
func open(e *api.Expr) piece {
	return piece{expr: e, least: levelIf}
}

func around(before string, pieces []piece, behind string) []piece {
	return slices.Concat([]piece{say(before)}, pieces, []piece{say(behind)})
}

func dealPieces(d *api.Deal) []piece {
	pieces := []piece{say("deal ", d.Name, " {\n  start ", dateText(d.Start), ";\n")}
	if len(d.Holidays) > 0 {
		pieces = append(pieces, say("  holidays ", joined(d.Holidays, dateText), ";\n"))
	}
	if len(d.Names) > 0 {
		pieces = append(pieces, say("  observe ", strings.Join(d.Names, ", "), ";\n"))
	}
	for i := range d.Defs {
		def := &d.Defs[i]
		head := say("  def ", def.Name, "(", strings.Join(def.Params, ", "), ") = ")
		pieces = append(pieces, head, open(&def.Body), say(";\n"))
	}
	return append(pieces, say("  contract "), piece{con: &d.Body}, say(";\n}\n"))
}
