package nodes

import (
	"testing"

	"winnower/api"
)

// nestExpr tells an expression of so many levels, one within the other.
func nestExpr(levels int, around func(kid api.Expr) api.Expr) api.Expr {
	e := variable("v")
	for range levels - 1 {
		e = around(e)
	}
	return e
}

// nestStmt tells a statement of so many levels, one within the other.
func nestStmt(levels int, inner api.Stmt, around func(kid api.Stmt) api.Stmt) api.Stmt {
	for range levels - 1 {
		inner = around(inner)
	}
	return inner
}

func not(e api.Expr) api.Expr {
	return expr(api.XNot, "", e)
}

func block(s api.Stmt) api.Stmt {
	return api.Stmt{Kind: api.SBlock, Body: []api.Stmt{s}}
}

func rule(exprs ...api.Expr) api.Item {
	return api.Item{Kind: api.IRule, Exprs: exprs}
}

// aroundExprs put an expression into another one, as one of its kids; each puts
// so many others beside it.
func aroundExprs() map[string]func(kid api.Expr) api.Expr {
	v := variable("v")
	return map[string]func(kid api.Expr) api.Expr{
		"not":     not,
		"field":   func(kid api.Expr) api.Expr { return expr(api.XField, "", kid) },
		"first":   func(kid api.Expr) api.Expr { return expr(api.XCat, "", kid, v) },
		"last":    func(kid api.Expr) api.Expr { return expr(api.XBin, "-", v, kid) },
		"middle":  func(kid api.Expr) api.Expr { return expr(api.XCond, "", v, kid, v) },
		"key":     func(kid api.Expr) api.Expr { return expr(api.XIndex, "t", kid) },
		"value":   func(kid api.Expr) api.Expr { return expr(api.XAssign, "=", v, kid) },
		"call":    func(kid api.Expr) api.Expr { return expr(api.XCall, "f", v, v, kid, v) },
		"builtin": func(kid api.Expr) api.Expr { return expr(api.XBuiltin, "substr", kid, v, v) },
		"getline": func(kid api.Expr) api.Expr { return getline(11, v, kid) },
	}
}

// aroundStmts put a statement into another one.
func aroundStmts() map[string]func(kid api.Stmt) api.Stmt {
	v := []api.Expr{variable("v")}
	stop := api.Stmt{Kind: api.SBreak}
	list := func(kid api.Stmt) []api.Stmt { return []api.Stmt{stop, kid} }
	return map[string]func(kid api.Stmt) api.Stmt{
		"block":  block,
		"if":     func(kid api.Stmt) api.Stmt { return api.Stmt{Kind: api.SIf, Exprs: v, Body: list(kid)} },
		"else":   func(kid api.Stmt) api.Stmt { return api.Stmt{Kind: api.SIf, Exprs: v, Else: list(kid)} },
		"while":  func(kid api.Stmt) api.Stmt { return api.Stmt{Kind: api.SWhile, Exprs: v, Body: list(kid)} },
		"do":     func(kid api.Stmt) api.Stmt { return api.Stmt{Kind: api.SDo, Exprs: v, Body: []api.Stmt{kid, stop}} },
		"for":    func(kid api.Stmt) api.Stmt { return api.Stmt{Kind: api.SFor, Body: []api.Stmt{stop, kid, stop}} },
		"for in": func(kid api.Stmt) api.Stmt { return api.Stmt{Kind: api.SForIn, S: "k", Exprs: v, Body: list(kid)} },
	}
}

// P13.1: the size and the depth of what is right.
func TestSize(t *testing.T) {
	v := variable("v")
	plain := exprStmt(v)
	sizeIs(t, api.Program{}, 0, 0)
	sizeIs(t, api.Program{Items: []api.Item{}}, 0, 0)
	sizeIs(t, items(api.Item{Kind: api.IBegin}, api.Item{Kind: api.IFunc, Name: "f", Params: []string{"a", "b"}}), 0, 0)
	sizeIs(t, items(rule(v)), 1, 1)
	sizeIs(t, items(rule(v, v)), 2, 1)
	sizeIs(t, items(rule(v, not(v))), 3, 2)
	sizeIs(t, begin(api.Stmt{Kind: api.SNext}), 1, 1)
	sizeIs(t, begin(plain), 2, 2)
	sizeIs(t, begin(plain, exprStmt(not(v)), plain), 7, 3)
	sizeIs(t, begin(block(api.Stmt{Kind: api.SBlock})), 2, 2)
	sizeIs(t, begin(api.Stmt{Kind: api.SIf, Exprs: values(1), Body: of(2, plain), Else: []api.Stmt{block(plain)}}), 9, 4)
	sizeIs(t, begin(api.Stmt{Kind: api.SFor, N: 7, Exprs: values(1), Body: of(1, plain), Else: of(2, plain)}), 8, 3)
	sizeIs(t, begin(api.Stmt{Kind: api.SForIn, S: "k", Exprs: values(1)}), 2, 2)
	sizeIs(t, begin(api.Stmt{Kind: api.SDelete, S: "t", Exprs: values(5)}), 6, 2)
	sizeIs(t, items(rule(v), api.Item{Kind: api.IEnd, Body: of(3, plain)}, api.Item{Kind: api.IRule, Exprs: values(2), HasBody: true, Body: of(1, block(plain))}), 12, 3)
	for _, e := range atoms() {
		held(t, items(rule(e), rule(not(e), e)))
	}
	for _, c := range stmtCases() {
		held(t, begin(c.right(), block(c.right())))
	}
	held(t, items(rightItems()...))
}

// P13.1: the size and the depth of what is not right: all lists count, be they
// named by a row or not.
func TestSizeOfWrong(t *testing.T) {
	v := variable("v")
	plain := exprStmt(v)
	for kind := range 256 {
		e := api.Expr{Kind: api.ExprKind(kind), S: "?", N: 99, Kids: []api.Expr{v, {}, not(v)}}
		sizeIs(t, items(rule(e)), 5, 3)
		s := api.Stmt{Kind: api.StmtKind(kind), S: "?", N: 99, Exprs: []api.Expr{{}, v}, Body: []api.Stmt{plain}, Else: []api.Stmt{{}, plain, {}}}
		sizeIs(t, begin(s), 9, 3)
		it := api.Item{Kind: api.ItemKind(kind), Name: "?", Params: of(30, "?"), Exprs: values(4), HasBody: kind%2 == 0, Body: of(3, plain)}
		sizeIs(t, items(it, it), 20, 2)
		sizeIs(t, items(api.Item{Kind: api.ItemKind(kind)}), 0, 0)
	}
	for _, e := range wrongAtoms() {
		held(t, items(rule(v), rule(not(e), e)))
	}
	for _, s := range wrongStatements() {
		held(t, begin(plain, block(s)))
	}
}

// fits says that a program of so many parts is right, if they are few enough.
func fits(t *testing.T, p api.Program, parts int) {
	t.Helper()
	if n, _ := Size(p); n != parts {
		t.Errorf("the size of %s is %d; want %d", brief(p), n, parts)
	}
	programIs(t, p, parts <= mostNodes)
	held(t, p)
}

// P13.1: 3999, 4000 and 4001 parts.
func TestManyParts(t *testing.T) {
	if api.MaxNodes != mostNodes {
		t.Error(api.MaxNodes)
	}
	v, next := variable("v"), api.Stmt{Kind: api.SNext}
	for _, n := range []int{3998, 3999, 4000, 4001, 4002, 8000, 20000} {
		// Expressions alone.
		fits(t, items(rule(expr(api.XCall, "f", values(n-1)...))), n)
		fits(t, items(rule(expr(api.XIndex, "f", values(n-3)...), not(v))), n)
		// Statements alone.
		fits(t, begin(of(n, next)...), n)
		fits(t, begin(api.Stmt{Kind: api.SBlock, Body: of(n-1, next)}), n)
		// Both.
		fits(t, begin(api.Stmt{Kind: api.SPrint, Exprs: values(n - 1)}), n)
		fits(t, begin(api.Stmt{Kind: api.SIf, Exprs: values(1), Else: of(n-2, next)}), n)
		fits(t, begin(append(of(n-4, next), exprStmt(v), exprStmt(v))...), n)
		// Over many items, one part each, and more.
		fits(t, items(of(n, rule(v))...), n)
		fits(t, items(of(n, api.Item{Kind: api.IFunc, Name: "f", Body: of(1, next)})...), n)
		third := api.Item{Kind: api.IEnd, Body: of(n/3, next)}
		fits(t, items(third, api.Item{Kind: api.IRule, HasBody: true, Body: of(n-2*(n/3), next)}, rule(expr(api.XCall, "f", values(n/3-1)...))), n)
		// Items that have none do not count.
		fits(t, items(append(of(5000, api.Item{Kind: api.IBegin}), rule(expr(api.XCall, "f", values(n-1)...)))...), n)
		// An expression by itself has as many as it likes.
		exprOf := expr(api.XCall, "f", values(n-1)...)
		if !Expr(exprOf) || !Expr(not(exprOf)) {
			t.Errorf("an expression of %d parts is not right", n)
		}
	}
	// Full trees: each part has others.
	tree := v
	for range 11 {
		tree = expr(api.XCat, "", tree, tree)
	}
	fits(t, items(rule(tree)), 4095)
	fits(t, items(rule(tree.Kids[0], tree.Kids[1].Kids[0])), 2047+1023)
	fits(t, items(rule(tree.Kids[0]), rule(tree.Kids[1].Kids[0], tree.Kids[0].Kids[0].Kids[0])), 2047+1023+511)
}

// P13.1: 59, 60 and 61 levels of expressions.
func TestLevelsOfExprs(t *testing.T) {
	if api.MaxNest != mostNest {
		t.Error(api.MaxNest)
	}
	for name, around := range aroundExprs() {
		for _, levels := range []int{1, 2, 58, 59, 60, 61, 62, 63, 120, 1000} {
			e := nestExpr(levels, around)
			if got := Expr(e); got != (levels <= mostNest) {
				t.Errorf("%d levels by %s: %v", levels, name, got)
			}
			programIs(t, items(rule(e)), levels <= mostNest)
			programIs(t, items(rule(variable("v"), e)), levels <= mostNest)
			programIs(t, begin(exprStmt(e)), levels+1 <= mostNest)
			programIs(t, begin(block(exprStmt(e))), levels+2 <= mostNest)
			programIs(t, begin(api.Stmt{Kind: api.SFor, N: 4, Else: of(1, exprStmt(e))}), levels+2 <= mostNest)
			programIs(t, begin(api.Stmt{Kind: api.SFor, N: 2, Exprs: []api.Expr{e}}), levels+1 <= mostNest)
			for _, it := range []api.Item{rule(e), rule(variable("v"), e)} {
				_, depth := Size(items(it))
				if depth != min(levels, mostNest+1) {
					t.Errorf("%d levels by %s are %d", levels, name, depth)
				}
				held(t, items(it))
			}
		}
	}
}

// P13.1: 59, 60 and 61 levels of statements, and of both.
func TestLevelsOfStatements(t *testing.T) {
	next := api.Stmt{Kind: api.SNext}
	for _, around := range aroundStmts() {
		for _, levels := range []int{1, 2, 58, 59, 60, 61, 62, 63, 120, 1000} {
			for _, body := range []struct {
				s      api.Stmt
				levels int
			}{
				{nestStmt(levels, next, around), levels},
				{nestStmt(levels, api.Stmt{Kind: api.SBlock}, around), levels},
				{nestStmt(levels, exprStmt(variable("v")), around), levels + 1},
				{nestStmt(levels, exprStmt(not(not(variable("v")))), around), levels + 3},
				{nestStmt(levels, api.Stmt{Kind: api.SFor, N: 5, Else: of(2, exprStmt(variable("v")))}, around), levels + 2},
			} {
				for _, p := range []api.Program{
					begin(body.s),
					begin(next, body.s, next),
					items(rightItems()[0], api.Item{Kind: api.IRule, HasBody: true, Body: []api.Stmt{body.s}}),
					items(api.Item{Kind: api.IFunc, Name: "f", Body: []api.Stmt{body.s}}, rightItems()[1]),
				} {
					_, depth := Size(p)
					// Of a program of its own the other item is not as deep.
					if want := min(max(body.levels, modelDepth(p)), mostNest+1); depth != want {
						t.Errorf("%d levels are %d", want, depth)
					}
					programIs(t, p, depth <= mostNest)
					held(t, p)
				}
			}
		}
	}
	for _, levels := range []int{59, 60, 61} {
		for within := 1; within < levels; within++ {
			s := nestStmt(levels-within, exprStmt(nestExpr(within, not)), block)
			sizeIs(t, begin(s), levels, levels)
			programIs(t, begin(s), levels <= mostNest)
		}
	}
}

func modelDepth(p api.Program) int {
	_, depth := modelSize(p)
	return depth
}

// P13.1: what is nested deeper than 61 levels does not count.
func TestDeeperLevels(t *testing.T) {
	v, next := variable("v"), api.Stmt{Kind: api.SNext}
	wide := expr(api.XCall, "f", values(100)...)
	deepExpr := func(levels int) api.Expr {
		e := wide
		for range levels - 2 {
			e = not(e)
		}
		return e
	}
	sizeIs(t, items(rule(deepExpr(60))), 159, 60)
	sizeIs(t, items(rule(deepExpr(61))), 160, 61)
	sizeIs(t, items(rule(deepExpr(62))), 61, 61)
	sizeIs(t, items(rule(deepExpr(63))), 61, 61)
	sizeIs(t, items(rule(deepExpr(63), v), rule(deepExpr(61))), 61+1+160, 61)
	wideStmt := api.Stmt{Kind: api.SIf, Exprs: values(1), Body: of(20, next), Else: of(30, next)}
	sizeIs(t, begin(nestStmt(59, wideStmt, block)), 59+51, 60)
	sizeIs(t, begin(nestStmt(60, wideStmt, block)), 60+51, 61)
	sizeIs(t, begin(nestStmt(61, wideStmt, block)), 61, 61)
	sizeIs(t, begin(nestStmt(62, wideStmt, block)), 61, 61)
	sizeIs(t, begin(nestStmt(60, exprStmt(not(v)), block)), 61, 61)
	sizeIs(t, begin(nestStmt(5000, next, block)), 61, 61)
	sizeIs(t, items(rule(nestExpr(5000, not)), rule(nestExpr(5000, func(kid api.Expr) api.Expr { return expr(api.XCat, "", kid, v) }))), 61+121, 61)
	// What is too deep is never right, be it right there or not.
	for _, inner := range append(atoms(), wrongAtoms()...) {
		e := inner
		for range 61 {
			e = not(e)
		}
		if Expr(e) {
			t.Errorf("%s is right, 62 levels deep", brief(inner))
		}
		held(t, items(rule(e)))
	}
}
