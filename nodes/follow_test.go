package nodes

import (
	"testing"

	"winnower/api"
)

// partsRight says that all parts of a program, asked by themselves, are right,
// and no greater and no deeper than it.
func partsRight(t *testing.T, p api.Program) {
	t.Helper()
	size, depth := Size(p)
	within := func(part api.Program) {
		t.Helper()
		programIs(t, part, true)
		if n, d := Size(part); n > size || d > depth {
			t.Errorf("%s has the size %d, %d", brief(part), n, d)
		}
	}
	for _, it := range p.Items {
		within(items(it))
		es, ss := partsOf(it.Exprs, it.Body)
		for _, e := range es {
			if !Expr(*e) {
				t.Errorf("Expr(%s) is false", brief(*e))
			}
			within(items(rule(*e)))
		}
		for _, s := range ss {
			within(begin(*s))
			within(items(api.Item{Kind: api.IRule, HasBody: true, Body: s.Body}))
			within(items(api.Item{Kind: api.IFunc, Name: "f", Body: s.Else}))
		}
	}
}

// P13.2: all parts of what is right are right.
func TestPartsAreRight(t *testing.T) {
	partsRight(t, items(rightItems()...))
	for _, e := range atoms() {
		partsRight(t, items(rule(e), rule(not(e), e)))
	}
	for _, c := range stmtCases() {
		partsRight(t, begin(c.right(), block(c.right())))
	}
	for _, around := range aroundExprs() {
		partsRight(t, items(rule(nestExpr(60, around))))
		partsRight(t, begin(exprStmt(nestExpr(59, around))))
	}
	for _, around := range aroundStmts() {
		partsRight(t, begin(nestStmt(60, api.Stmt{Kind: api.SNext}, around)))
		partsRight(t, begin(nestStmt(59, exprStmt(variable("v")), around)))
	}
	partsRight(t, begin(of(4000, api.Stmt{Kind: api.SNext})...))
	partsRight(t, items(of(4000, rule(variable("v")))...))
	partsRight(t, items(rule(expr(api.XCall, "f", values(3999)...))))
	w := wild{seeded()}
	for range 1000 {
		partsRight(t, w.program())
	}
}

// P13.2, the other way about: what has a part that is not right isn't, either.
func TestWrongPartsAreSeen(t *testing.T) {
	w := wild{seeded()}
	for range 2000 {
		p := w.program()
		it := &p.Items[w.Intn(len(p.Items))]
		es, ss := partsOf(it.Exprs, it.Body)
		if len(es) > 0 {
			e := pick(w, es)
			kept := *e
			*e = pick(w, wrongAtoms())
			programIs(t, p, false)
			*e = kept
			programIs(t, p, true)
		}
		if len(ss) > 0 {
			s := pick(w, ss)
			kept := *s
			*s = pick(w, wrongStatements())
			programIs(t, p, false)
			*s = kept
			programIs(t, p, true)
		}
	}
}
