package tree

import (
	"slices"

	"payoff/api"
)

// parts lists a tree's root and all that stands under it, each ahead of its kids. It is a loop and not a row of calls within calls, so that no tree is too deep.
func parts[T any](root *T, kids func(*T) []T) []*T {
	all := []*T{root}
	for next := 0; next < len(all); next++ {
		under := kids(all[next])
		for i := range under {
			all = append(all, &under[i])
		}
	}
	return all
}

func exprKids(e *api.Expr) []api.Expr { return e.Kids }

func conKids(c *api.Con) []api.Con { return c.Kids }

// At tells the contract at the end of a path through a deal's body.
func At(d api.Deal, path []int) (api.Con, api.Errno) {
	con := d.Body
	for _, child := range path {
		exprs := len(con.Exprs)
		if child < exprs || child-exprs >= len(con.Kids) {
			return api.Con{}, api.ErrRange
		}
		con = con.Kids[child-exprs]
	}
	detachCon(&con)
	return con, api.OK
}

// detachCon gives a contract lists of its own, all the way down.
func detachCon(root *api.Con) {
	all := parts(root, func(c *api.Con) []api.Con {
		c.Kids = slices.Clone(c.Kids)
		return c.Kids
	})
	for _, con := range all {
		con.Exprs = slices.Clone(con.Exprs)
		for i := range con.Exprs {
			detachExpr(&con.Exprs[i])
		}
	}
}

func detachExpr(root *api.Expr) {
	all := parts(root, func(e *api.Expr) []api.Expr {
		e.Kids = slices.Clone(e.Kids)
		return e.Kids
	})
	for _, expr := range all {
		expr.Dates = slices.Clone(expr.Dates)
	}
}

// Equal tells whether two deals are the same.
func Equal(a api.Deal, b api.Deal) bool {
	return a.Name == b.Name && a.Start == b.Start &&
		slices.Equal(a.Holidays, b.Holidays) && slices.Equal(a.Names, b.Names) &&
		slices.EqualFunc(a.Defs, b.Defs, equalDefs) && equalCons(&a.Body, &b.Body)
}

func equalDefs(a, b api.Def) bool {
	return a.Name == b.Name && slices.Equal(a.Params, b.Params) && equalExprs(a.Body, b.Body)
}

// equalCons holds the parts of two contracts against each other; with the number of each one's kids, their row tells the tree.
func equalCons(a, b *api.Con) bool {
	return slices.EqualFunc(parts(a, conKids), parts(b, conKids), func(x, y *api.Con) bool {
		return x.Kind == y.Kind && x.Name == y.Name && x.Loop == y.Loop && x.Cur == y.Cur && x.Num == y.Num &&
			x.Date == y.Date && x.Range == y.Range && len(x.Kids) == len(y.Kids) &&
			slices.EqualFunc(x.Exprs, y.Exprs, equalExprs)
	})
}

func equalExprs(a, b api.Expr) bool {
	return slices.EqualFunc(parts(&a, exprKids), parts(&b, exprKids), func(x, y *api.Expr) bool {
		return x.Op == y.Op && x.Num == y.Num && x.Name == y.Name &&
			slices.Equal(x.Dates, y.Dates) && len(x.Kids) == len(y.Kids)
	})
}
