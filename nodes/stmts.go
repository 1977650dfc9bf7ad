package nodes

import (
	"winnower/api"
)

// stmtForm is a kind, and an N that it may have.
type stmtForm struct {
	kind api.StmtKind
	n    int
}

// stmtRow is what a statement of a form has.
type stmtRow struct {
	named              bool
	exprs, body, other span
}

// stmtRows tells all forms that may be.
func stmtRows() map[stmtForm]stmtRow {
	rows := map[stmtForm]stmtRow{
		{api.SExpr, 0}:     {exprs: exactly(1)},
		{api.SPrint, 0}:    {exprs: atLeast(0)},
		{api.SPrintf, 0}:   {exprs: atLeast(1)},
		{api.SIf, 0}:       {exprs: exactly(1), body: atLeast(0), other: atLeast(0)},
		{api.SWhile, 0}:    {exprs: exactly(1), body: atLeast(0)},
		{api.SDo, 0}:       {exprs: exactly(1), body: atLeast(0)},
		{api.SForIn, 0}:    {named: true, exprs: exactly(1), body: atLeast(0)},
		{api.SBreak, 0}:    {},
		{api.SContinue, 0}: {},
		{api.SNext, 0}:     {},
		{api.SExit, 0}:     {exprs: upTo(1)},
		{api.SReturn, 0}:   {exprs: upTo(1)},
		{api.SDelete, 0}:   {named: true, exprs: atLeast(0)},
		{api.SBlock, 0}:    {body: atLeast(0)},
	}
	for to := 1; to <= 3; to++ {
		rows[stmtForm{api.SPrint, to}] = stmtRow{exprs: atLeast(1)}
		rows[stmtForm{api.SPrintf, to}] = stmtRow{exprs: atLeast(2)}
	}
	for n := range 8 {
		init, condition, step := n&1, n>>1&1, n>>2
		rows[stmtForm{api.SFor, n}] = stmtRow{exprs: exactly(condition), body: atLeast(0), other: exactly(init + step)}
	}
	return rows
}

// stmtFits says whether a statement has what its kind asks for and nothing else,
// but for what the parts within it have.
func stmtFits(rows map[stmtForm]stmtRow, s *api.Stmt) bool {
	row, ok := rows[stmtForm{s.Kind, s.N}]
	if !ok || !nameFits(row.named, s.S) || !row.exprs.holds(len(s.Exprs)) || !row.body.holds(len(s.Body)) || !row.other.holds(len(s.Else)) {
		return false
	}
	switch s.Kind {
	case api.SFor:
		return onlyExprs(s.Else)
	case api.SForIn:
		return s.Exprs[0].Kind == api.XVar
	}
	return true
}

func onlyExprs(stmts []api.Stmt) bool {
	for i := range stmts {
		if stmts[i].Kind != api.SExpr {
			return false
		}
	}
	return true
}

func nameFits(named bool, s string) bool {
	if named {
		return isName(s)
	}
	return isEmpty(s)
}
