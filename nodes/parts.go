package nodes

import (
	"winnower/api"
)

// part is an expression or a statement: one of the two is there.
type part struct {
	expr *api.Expr
	stmt *api.Stmt
}

// list tells parts to a closure, one by one.
type list func(tell func(p part))

// program tells the parts of the items' lists.
func program(p api.Program) list {
	return func(tell func(p part)) {
		for _, item := range p.Items {
			tellExprs(item.Exprs, tell)
			tellStmts(item.Body, tell)
		}
	}
}

// within tells the parts of a part's lists.
func within(p part) list {
	return func(tell func(p part)) {
		if p.expr != nil {
			tellExprs(p.expr.Kids, tell)
			return
		}
		tellExprs(p.stmt.Exprs, tell)
		tellStmts(p.stmt.Body, tell)
		tellStmts(p.stmt.Else, tell)
	}
}

func tellExprs(exprs []api.Expr, tell func(p part)) {
	for i := range exprs {
		tell(part{expr: &exprs[i]})
	}
}

func tellStmts(stmts []api.Stmt, tell func(p part)) {
	for i := range stmts {
		tell(part{stmt: &stmts[i]})
	}
}
