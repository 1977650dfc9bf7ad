package resolve

import (
	"winnower/api"
)

// part is an item, or a statement or an expression of one, and where that stands.
type part struct {
	item   *api.Item
	stmt   *api.Stmt // none, if it is the item itself, or of its Exprs
	expr   *api.Expr // none, if it is no expression
	around *api.Expr // none, if it is no expression's kid
	at     int       // which kid it is
	inLoop bool      // whether it stands in a loop's Body
}

// line tells the line of a part: its statement's or, if it is in none, its item's.
func (p part) line() int {
	if p.stmt != nil {
		return p.stmt.Line
	}
	return p.item.Line
}

// tellParts tells all parts to a closure, in the order in which they are come to.
func (r *program) tellParts(tell func(p part)) {
	for i := range r.items {
		p := part{item: &r.items[i]}
		tell(p)
		p.tellExprs(p.item.Exprs, tell)
		p.tellStmts(p.item.Body, tell)
	}
}

// tellExprs tells expressions that stand in a part, each ahead of its kids.
func (p part) tellExprs(exprs []api.Expr, tell func(p part)) {
	p.around = p.expr
	for i := range exprs {
		p.expr, p.at = &exprs[i], i
		tell(p)
		p.tellExprs(p.expr.Kids, tell)
	}
}

// tellStmts tells statements that stand in a part, each ahead of those within it.
func (p part) tellStmts(stmts []api.Stmt, tell func(p part)) {
	for i := range stmts {
		p.stmt = &stmts[i]
		tell(p)
		p.tellExprs(p.stmt.Exprs, tell)
		body := p
		body.inLoop = p.inLoop || isLoop(p.stmt.Kind)
		// Of a for, Else has its init and its step.
		if p.stmt.Kind == api.SFor {
			p.tellStmts(p.stmt.Else, tell)
			body.tellStmts(p.stmt.Body, tell)
			continue
		}
		body.tellStmts(p.stmt.Body, tell)
		p.tellStmts(p.stmt.Else, tell)
	}
}

func isLoop(kind api.StmtKind) bool {
	switch kind {
	case api.SWhile, api.SDo, api.SFor, api.SForIn:
		return true
	}
	return false
}
