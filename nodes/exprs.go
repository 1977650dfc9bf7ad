package nodes

import (
	"math"

	"winnower/api"
)

// exprForm is a kind, and an N that it may have.
type exprForm struct {
	kind api.ExprKind
	n    uint64
}

// exprRow is what an expression of a form has.
type exprRow struct {
	says   func(s string) bool
	kids   span
	lvalue bool // as the first kid
}

// exprRows tells all forms that may be. That of an XNum stands for each N.
func exprRows() map[exprForm]exprRow {
	return map[exprForm]exprRow{
		{api.XNum, 0}:      {says: isEmpty},
		{api.XStr, 0}:      {says: isAny},
		{api.XRe, 0}:       {says: isPattern},
		{api.XVar, 0}:      {says: isName},
		{api.XIndex, 0}:    {says: isName, kids: atLeast(1)},
		{api.XIn, 0}:       {says: isName, kids: atLeast(1)},
		{api.XField, 0}:    {says: isEmpty, kids: exactly(1)},
		{api.XNot, 0}:      {says: isEmpty, kids: exactly(1)},
		{api.XNeg, 0}:      {says: isEmpty, kids: exactly(1)},
		{api.XPlus, 0}:     {says: isEmpty, kids: exactly(1)},
		{api.XAssign, 0}:   {says: oneOf("=", "+=", "-=", "*=", "/=", "%=", "^="), kids: exactly(2), lvalue: true},
		{api.XCond, 0}:     {says: isEmpty, kids: exactly(3)},
		{api.XOr, 0}:       {says: isEmpty, kids: exactly(2)},
		{api.XAnd, 0}:      {says: isEmpty, kids: exactly(2)},
		{api.XCat, 0}:      {says: isEmpty, kids: exactly(2)},
		{api.XMatch, 0}:    {says: oneOf("~", "!~"), kids: exactly(2)},
		{api.XCmp, 0}:      {says: oneOf("<", "<=", "==", "!=", ">", ">="), kids: exactly(2)},
		{api.XBin, 0}:      {says: oneOf("+", "-", "*", "/", "%", "^"), kids: exactly(2)},
		{api.XPre, 0}:      {says: oneOf("++", "--"), kids: exactly(1), lvalue: true},
		{api.XPost, 0}:     {says: oneOf("++", "--"), kids: exactly(1), lvalue: true},
		{api.XCall, 0}:     {says: isName, kids: atLeast(0)},
		{api.XBuiltin, 0}:  {says: builtins(), kids: atLeast(0)},
		{api.XGetline, 1}:  {says: isEmpty},
		{api.XGetline, 2}:  {says: isEmpty, kids: exactly(1)},
		{api.XGetline, 3}:  {says: isEmpty, kids: exactly(1)},
		{api.XGetline, 9}:  {says: isEmpty, kids: exactly(1), lvalue: true},
		{api.XGetline, 10}: {says: isEmpty, kids: exactly(2), lvalue: true},
		{api.XGetline, 11}: {says: isEmpty, kids: exactly(2), lvalue: true},
	}
}

func builtins() func(s string) bool {
	return oneOf("length", "substr", "index", "split", "sub", "gsub", "match", "sprintf",
		"tolower", "toupper", "int", "srand", "rand", "close", "system")
}

// exprFits says whether an expression has what its kind asks for and nothing
// else, but for what its kids have.
func exprFits(rows map[exprForm]exprRow, e *api.Expr) bool {
	form := exprForm{e.Kind, e.N}
	if e.Kind == api.XNum && isNumber(e.N) {
		form.n = 0
	}
	row, ok := rows[form]
	if !ok || !row.says(e.S) || !row.kids.holds(len(e.Kids)) {
		return false
	}
	return !row.lvalue || isLvalue(e.Kids[0].Kind)
}

// isNumber says whether bits are those of a finite number that has no sign: they
// rise as the numbers do, and all others are above them.
func isNumber(bits uint64) bool {
	return bits < math.Float64bits(math.Inf(1))
}

func isLvalue(kind api.ExprKind) bool {
	return kind == api.XVar || kind == api.XIndex || kind == api.XField
}
