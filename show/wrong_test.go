package show

import (
	"math"
	"slices"
	"strings"
	"testing"

	"winnower/api"
)

// wrongExprs are expressions that are not right, for each reason that chapter 13
// has.
func wrongExprs() []api.Expr {
	a, b, one := variable("a"), variable("b"), number(1)
	wrong := []api.Expr{
		// No kind.
		{}, {Kind: 24}, {Kind: 255, S: "a"},
		// Numbers that are none, or below 0, or not finite.
		number(-1), number(math.Copysign(0, -1)), number(math.Inf(1)), number(math.Inf(-1)), {Kind: api.XNum, N: api.NaN}, {Kind: api.XNum, N: math.MaxUint64}, {Kind: api.XNum, N: 0x7ff << 52},
		// Patterns that would be others, or none.
		pattern("\n"), pattern("a\nb"), pattern(`\`), pattern(`a\`), pattern(`\\\`), pattern(`\/`), pattern(`\\\/`), pattern("\\\n"),
		// Too few kids, or too many.
		expr(api.XIndex, "t"), expr(api.XIn, "t"), expr(api.XField, ""), expr(api.XField, "", a, b), expr(api.XNot, ""), expr(api.XNot, "", a, b), expr(api.XNeg, ""), expr(api.XPlus, "", a, b), expr(api.XAssign, "=", a), expr(api.XAssign, "=", a, b, a), expr(api.XCond, "", a, b), expr(api.XCond, "", a, b, a, b),
		expr(api.XOr, "", a), expr(api.XAnd, "", a, b, a), expr(api.XCat, "", a), expr(api.XCat, ""), expr(api.XMatch, "~", a), expr(api.XCmp, "<", a, b, a), expr(api.XBin, "+", a), expr(api.XPre, "++"), expr(api.XPost, "--", a, b),
		// No lvalue where one must stand.
		expr(api.XAssign, "=", one, a), expr(api.XAssign, "+=", expr(api.XNot, "", a), b), expr(api.XPre, "++", one), expr(api.XPost, "--", expr(api.XCat, "", a, b)), expr(api.XPre, "--", expr(api.XPost, "++", a)), getline(9, one), getline(10, quote("x"), a), getline(11, expr(api.XCall, "f"), a),
		// An N that may not be.
		{Kind: api.XStr, N: 1}, {Kind: api.XVar, S: "a", N: 1}, getline(0), getline(4), getline(8), getline(12), getline(16), getline(math.MaxUint64),
		getline(1, a), getline(2), getline(2, a, b), getline(3), getline(9), getline(9, a, b), getline(10, a), getline(11, a), getline(11, a, b, a),
		// An S where none is named, a kid where none is.
		{Kind: api.XNum, S: "1"}, {Kind: api.XField, S: "x", Kids: []api.Expr{a}}, {Kind: api.XGetline, N: 1, S: "getline"}, {Kind: api.XCond, S: "?", Kids: []api.Expr{a, b, a}}, {Kind: api.XNot, S: "!", Kids: []api.Expr{a}}, {Kind: api.XCat, S: " ", Kids: []api.Expr{a, b}},
		{Kind: api.XNum, Kids: []api.Expr{a}}, {Kind: api.XStr, Kids: []api.Expr{a}}, {Kind: api.XRe, Kids: []api.Expr{a}}, {Kind: api.XVar, S: "a", Kids: []api.Expr{a}},
	}
	for _, kind := range []api.ExprKind{api.XAssign, api.XMatch, api.XCmp, api.XBin, api.XPre, api.XPost} {
		kids := []api.Expr{a, b}
		if kind == api.XPre || kind == api.XPost {
			kids = kids[:1]
		}
		for _, s := range []string{"", " ", "=", "+", "++", "~", "<", "&&", "**", "=>", " = ", "+ "} {
			if !slices.Contains(signsOf(kind), s) {
				wrong = append(wrong, expr(kind, s, kids...))
			}
		}
	}
	for _, s := range []string{"", " ", "1", "1a", "a b", " a", "a ", "a\n", "\na", "#a", "a#", "a(", "$a", "a[", "é", "\xff", "in", "getline", "length", "BEGIN", "print", "func()", strings.Repeat("n", mostSource+1)} {
		wrong = append(wrong, variable(s), expr(api.XIndex, s, a), expr(api.XIn, s, a), expr(api.XIn, s, a, b), expr(api.XCall, s), expr(api.XCall, s, a, b))
	}
	for _, s := range []string{"", "f", "sin", "getline", "print", "Length", "length ", "length()"} {
		wrong = append(wrong, expr(api.XBuiltin, s, a), expr(api.XBuiltin, s))
	}
	return wrong
}

// P15.1: of an expression that is not right nothing is told, wherever it stands.
func TestWrongExprs(t *testing.T) {
	a := variable("a")
	for _, wrong := range wrongExprs() {
		exprIsNot(t, api.ErrTree, wrong)
		for _, outer := range append(arounds(), lvaluesAround()...) {
			exprIsNot(t, api.ErrTree, outer.of(wrong))
			isNot(t, api.ErrTree, begin(bare(outer.of(wrong))))
		}
		isNot(t, api.ErrTree, items(rule(wrong)))
		isNot(t, api.ErrTree, items(rule(a, wrong)))
		isNot(t, api.ErrTree, items(rule(a), braced(rule(wrong), bare(a))))
		isNot(t, api.ErrTree, begin(bare(a), bare(wrong)))
		isNot(t, api.ErrTree, begin(stmt(api.SPrint, a, wrong)))
		isNot(t, api.ErrTree, begin(printed(api.SPrintf, 2, a, wrong)))
		isNot(t, api.ErrTree, begin(has(stmt(api.SWhile, wrong), bare(a))))
		isNot(t, api.ErrTree, begin(api.Stmt{Kind: api.SFor, N: 2, Exprs: []api.Expr{wrong}}))
		isNot(t, api.ErrTree, begin(api.Stmt{Kind: api.SFor, N: 5, Else: list(bare(a), bare(wrong))}))
		isNot(t, api.ErrTree, begin(stmt(api.SReturn, wrong)))
		isNot(t, api.ErrTree, begin(api.Stmt{Kind: api.SDelete, S: "t", Exprs: []api.Expr{a, wrong}}))
		deep := wrong
		for range 30 {
			deep = expr(api.XCall, "f", a, expr(api.XNot, "", deep))
		}
		exprIsNot(t, api.ErrTree, deep)
		if t.Failed() {
			return
		}
	}
}

func wrongStmts() []api.Stmt {
	a, s := variable("a"), bare(variable("s"))
	one := []api.Expr{a}
	wrong := []api.Stmt{
		{}, {Kind: 16}, {Kind: 255},
		stmt(api.SExpr), stmt(api.SExpr, a, a), stmt(api.SPrintf), printed(api.SPrint, 1), printed(api.SPrint, 2), printed(api.SPrint, 3), printed(api.SPrintf, 1, a), printed(api.SPrintf, 3, a),
		printed(api.SPrint, 4, a, a), printed(api.SPrint, -1, a, a), printed(api.SPrintf, 4, a, a), printed(api.SPrintf, -1, a, a), printed(api.SPrint, math.MinInt, a, a),
		stmt(api.SIf), stmt(api.SIf, a, a), stmt(api.SWhile), stmt(api.SWhile, a, a), stmt(api.SDo), stmt(api.SDo, a, a),
		{Kind: api.SFor, N: 8}, {Kind: api.SFor, N: -1}, {Kind: api.SFor, N: 0, Exprs: one}, {Kind: api.SFor, N: 2}, {Kind: api.SFor, N: 2, Exprs: []api.Expr{a, a}}, {Kind: api.SFor, N: 1}, {Kind: api.SFor, N: 4}, {Kind: api.SFor, N: 5, Else: list(s)}, {Kind: api.SFor, N: 1, Else: list(s, s)}, {Kind: api.SFor, N: 0, Else: list(s)},
		{Kind: api.SFor, N: 1, Else: list(stmt(api.SNext))}, {Kind: api.SFor, N: 4, Else: list(stmt(api.SPrint, a))}, {Kind: api.SFor, N: 5, Else: list(s, block(s))}, {Kind: api.SFor, S: "x"},
		{Kind: api.SForIn, Exprs: one}, {Kind: api.SForIn, S: "in", Exprs: one}, {Kind: api.SForIn, S: "k x", Exprs: one}, {Kind: api.SForIn, S: "k"}, {Kind: api.SForIn, S: "k", Exprs: []api.Expr{number(1)}}, {Kind: api.SForIn, S: "k", Exprs: []api.Expr{expr(api.XIndex, "t", a)}}, {Kind: api.SForIn, S: "k", Exprs: []api.Expr{a, a}}, {Kind: api.SForIn, S: "k", Exprs: one, Else: list(s)},
		stmt(api.SBreak, a), stmt(api.SContinue, a), stmt(api.SNext, a), {Kind: api.SBreak, S: "x"}, {Kind: api.SNext, N: 1}, {Kind: api.SContinue, Body: list(s)}, {Kind: api.SBreak, Else: list(s)},
		stmt(api.SExit, a, a), stmt(api.SReturn, a, a), {Kind: api.SExit, N: 1}, {Kind: api.SReturn, S: "x"}, {Kind: api.SReturn, Body: list(s)},
		{Kind: api.SDelete}, {Kind: api.SDelete, S: "delete"}, {Kind: api.SDelete, S: "1"}, {Kind: api.SDelete, S: "t[1]"}, {Kind: api.SDelete, S: "t", N: 1}, {Kind: api.SDelete, S: "t", Body: list(s)},
		{Kind: api.SBlock, Exprs: one}, {Kind: api.SBlock, Else: list(s)}, {Kind: api.SBlock, S: "x"}, {Kind: api.SBlock, N: 1},
		{Kind: api.SExpr, Exprs: one, N: 1}, {Kind: api.SExpr, Exprs: one, S: "x"}, {Kind: api.SExpr, Exprs: one, Body: list(s)}, {Kind: api.SExpr, Exprs: one, Else: list(s)}, {Kind: api.SPrint, Exprs: one, Body: list(s)}, {Kind: api.SPrint, S: "x"}, {Kind: api.SPrintf, Exprs: one, Else: list(s)},
		{Kind: api.SIf, Exprs: one, N: 1}, {Kind: api.SIf, Exprs: one, S: "x"}, {Kind: api.SWhile, Exprs: one, Else: list(s)}, {Kind: api.SWhile, Exprs: one, N: 1}, {Kind: api.SDo, Exprs: one, Else: list(s)}, {Kind: api.SDo, Exprs: one, S: "x"},
	}
	return wrong
}

// P15.1: the same of statements.
func TestWrongStmts(t *testing.T) {
	a, s := variable("a"), bare(variable("s"))
	for _, wrong := range wrongStmts() {
		isNot(t, api.ErrTree, begin(wrong))
		isNot(t, api.ErrTree, begin(s, wrong, s))
		isNot(t, api.ErrTree, items(rule(a), api.Item{Kind: api.IEnd, Body: list(wrong)}))
		isNot(t, api.ErrTree, items(braced(rule(a), s, wrong)))
		isNot(t, api.ErrTree, items(function("f", []string{"a"}, wrong)))
		for _, outer := range []api.Stmt{
			has(stmt(api.SIf, a), s, wrong), ifElse(a, list(wrong), list(s)), ifElse(a, list(s), list(wrong)), has(stmt(api.SWhile, a), wrong), has(stmt(api.SDo, a), wrong), block(wrong),
			{Kind: api.SFor, N: 0, Body: list(wrong)}, {Kind: api.SForIn, S: "k", Exprs: names("t"), Body: list(wrong)}, block(block(block(s), wrong)),
		} {
			isNot(t, api.ErrTree, begin(outer))
		}
		if wrong.Kind != api.SExpr {
			isNot(t, api.ErrTree, begin(api.Stmt{Kind: api.SFor, N: 1, Else: list(wrong)}))
		}
	}
}

// P15.1: the same of items.
func TestWrongItems(t *testing.T) {
	a, s := variable("a"), bare(variable("s"))
	one := []api.Expr{a}
	var right []api.Item
	for _, c := range itemCases()[:12] {
		right = append(right, c.it)
	}
	for _, wrong := range []api.Item{
		{}, {Kind: 5}, {Kind: 255}, rule(), {Kind: api.IRule, Body: list(s)}, {Kind: api.IRule, Exprs: one, Body: list(s)}, rule(a, a, a), braced(rule(a, a, a)), {Kind: api.IRule, Exprs: one, Name: "x"}, {Kind: api.IRule, Exprs: one, Params: []string{"x"}},
		{Kind: api.IBegin, HasBody: true}, {Kind: api.IEnd, HasBody: true, Body: list(s)}, {Kind: api.IBegin, Exprs: one}, {Kind: api.IEnd, Exprs: one}, {Kind: api.IBegin, Name: "x"}, {Kind: api.IEnd, Params: []string{"x"}},
		function("", nil), function("in", nil), function("f ", nil), function("f", []string{""}), function("f", []string{"a", "print"}), function("f", of(mostParams+1, "a")), {Kind: api.IFunc, Name: "f", HasBody: true}, {Kind: api.IFunc, Name: "f", Exprs: one},
	} {
		isNot(t, api.ErrTree, items(wrong))
		for at := range len(right) + 1 {
			isNot(t, api.ErrTree, items(slices.Insert(slices.Clone(right), at, wrong)...))
		}
	}
}

// P15.1: trees that are too deep, or too great.
func TestTooMuch(t *testing.T) {
	a, s := variable("a"), bare(variable("s"))
	negated := func(e api.Expr) api.Expr { return expr(api.XNeg, "", e) }
	deep := nest(mostNest-1, a, negated)
	tells(t, strings.Repeat("- (", mostNest-2)+"- a"+strings.Repeat(")", mostNest-2), deep)
	exprIsNot(t, api.ErrTree, negated(deep))
	exprIsNot(t, api.ErrTree, nest(1000, deep, negated))
	isNot(t, api.ErrTree, begin(bare(deep)))
	isNot(t, api.ErrTree, items(rule(negated(deep))))
	blocks := nestStmt(mostNest, list(stmt(api.SNext)), func(body []api.Stmt) api.Stmt { return block(body...) })
	isNot(t, api.ErrTree, begin(blocks...))
	isNot(t, api.ErrTree, begin(nestStmt(mostNest-1, list(s), func(body []api.Stmt) api.Stmt { return block(body...) })...))
	isNot(t, api.ErrTree, begin(of(mostNodes+1, stmt(api.SNext))...))
	isNot(t, api.ErrTree, begin(of(mostNodes/2+1, s)...))
	isNot(t, api.ErrTree, items(of(mostNodes+1, rule(a))...))
	isNot(t, api.ErrTree, items(rule(expr(api.XCall, "f", of(mostNodes, a)...))))
}
