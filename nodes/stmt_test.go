package nodes

import (
	"math"
	"slices"
	"testing"

	"winnower/api"
)

// stmtCase is a kind with an N, as the chapter has it: how many of Exprs, of
// Body and of Else it may have.
type stmtCase struct {
	kind        api.StmtKind
	n           int
	named       bool
	exprs       []int
	body, other []int
}

func stmtCases() []stmtCase {
	zero, one, any := []int{0}, []int{1}, []int{0, 1, 2, 3}
	cases := []stmtCase{
		{api.SExpr, 0, false, one, zero, zero},
		{api.SPrint, 0, false, any, zero, zero},
		{api.SPrintf, 0, false, []int{1, 2, 3}, zero, zero},
		{api.SIf, 0, false, one, any, any},
		{api.SWhile, 0, false, one, any, zero},
		{api.SDo, 0, false, one, any, zero},
		{api.SForIn, 0, true, one, any, zero},
		{api.SBreak, 0, false, zero, zero, zero},
		{api.SContinue, 0, false, zero, zero, zero},
		{api.SNext, 0, false, zero, zero, zero},
		{api.SExit, 0, false, []int{0, 1}, zero, zero},
		{api.SReturn, 0, false, []int{0, 1}, zero, zero},
		{api.SDelete, 0, true, any, zero, zero},
		{api.SBlock, 0, false, zero, any, zero},
		{api.SFor, 0, false, zero, any, zero},
		{api.SFor, 1, false, zero, any, one},
		{api.SFor, 2, false, one, any, zero},
		{api.SFor, 3, false, one, any, one},
		{api.SFor, 4, false, zero, any, one},
		{api.SFor, 5, false, zero, any, []int{2}},
		{api.SFor, 6, false, one, any, one},
		{api.SFor, 7, false, one, any, []int{2}},
	}
	for n := 1; n <= 3; n++ {
		cases = append(cases, stmtCase{api.SPrint, n, false, []int{1, 2, 3}, zero, zero}, stmtCase{api.SPrintf, n, false, []int{2, 3}, zero, zero})
	}
	return cases
}

func (c stmtCase) has(named bool, exprs, body, other int) bool {
	return c.named == named && slices.Contains(c.exprs, exprs) && slices.Contains(c.body, body) && slices.Contains(c.other, other)
}

// right tells a statement of this kind and N, with as few parts as may be.
func (c stmtCase) right() api.Stmt {
	return c.with(c.exprs[0], c.body[0], c.other[0])
}

func (c stmtCase) with(exprs, body, other int) api.Stmt {
	plain := exprStmt(variable("s"))
	s := api.Stmt{Kind: c.kind, N: c.n, Exprs: values(exprs), Body: of(body, plain), Else: of(other, plain)}
	if c.named {
		s.S = "name"
	}
	return s
}

// P13.1: each kind, with and without each of what a statement may have.
func TestEachStatement(t *testing.T) {
	plain := exprStmt(variable("s"))
	cases := stmtCases()
	for kind := range api.StmtKind(17) {
		for n := -2; n <= 9; n++ {
			at := slices.IndexFunc(cases, func(c stmtCase) bool { return c.kind == kind && c.n == n })
			for _, name := range []string{"", "x", "in", " x"} {
				for exprs := range 4 {
					for body := range 3 {
						for other := range 4 {
							s := api.Stmt{Kind: kind, S: name, N: n, Exprs: values(exprs), Body: of(body, plain), Else: of(other, plain)}
							want := at >= 0 && (name == "" || name == "x") && cases[at].has(name == "x", exprs, body, other)
							if got := Right(begin(s)); got != want {
								t.Errorf("Right(%s) = %v", brief(s), got)
							}
						}
					}
				}
			}
		}
	}
	for _, c := range cases {
		s := c.right()
		stmtIs(t, s, true)
		for _, n := range []int{math.MinInt, -256, -8, 8, 256 + c.n, 1<<32 + c.n, math.MaxInt} {
			s.N = n
			stmtIs(t, s, false)
		}
	}
}

// P13.1: kinds that are none.
func TestUnknownStatements(t *testing.T) {
	stmtIs(t, api.Stmt{}, false)
	for kind := range 256 {
		if kind >= 1 && kind <= 15 {
			continue
		}
		for _, c := range stmtCases() {
			s := c.right()
			s.Kind = api.StmtKind(kind)
			programIs(t, begin(s), false)
		}
		stmtIs(t, api.Stmt{Kind: api.StmtKind(kind)}, false)
	}
}

// P13.1: a line is any number.
func TestLines(t *testing.T) {
	for _, line := range []int{math.MinInt, -1, 0, 1, 65537, math.MaxInt} {
		for _, c := range stmtCases() {
			s := c.right()
			s.Line = line
			stmtIs(t, s, true)
		}
		for _, item := range rightItems() {
			item.Line = line
			programIs(t, items(item), true)
		}
	}
}

// P13.1: any number of what may be any number.
func TestManyInAStatement(t *testing.T) {
	for _, c := range stmtCases() {
		s := c.right()
		if slices.Contains(c.exprs, 3) {
			s.Exprs = values(1000)
			stmtIs(t, s, true)
		}
		if slices.Contains(c.body, 3) {
			s.Body = of(1000, api.Stmt{Kind: api.SNext})
			stmtIs(t, s, true)
		}
		if slices.Contains(c.other, 3) {
			s.Else = of(1000, api.Stmt{Kind: api.SNext})
			stmtIs(t, s, true)
		}
	}
}

// P13.1: print and printf with each N, and with few of Exprs.
func TestPrints(t *testing.T) {
	for n := -1; n <= 4; n++ {
		for exprs := range 4 {
			may := n >= 0 && n <= 3
			stmtIs(t, api.Stmt{Kind: api.SPrint, N: n, Exprs: values(exprs)}, may && (n == 0 || exprs >= 1))
			stmtIs(t, api.Stmt{Kind: api.SPrintf, N: n, Exprs: values(exprs)}, may && exprs >= 1 && (n == 0 || exprs >= 2))
		}
	}
}

// P13.1: what stands in a for's Else are SExpr, right ones.
func TestForElse(t *testing.T) {
	plain := exprStmt(variable("s"))
	for _, n := range []int{1, 3, 4, 5, 6, 7} {
		count := 1
		if n&5 == 5 {
			count = 2
		}
		for at := range count {
			with := func(kid api.Stmt) api.Stmt {
				s := api.Stmt{Kind: api.SFor, N: n, Exprs: values(n >> 1 & 1), Else: of(count, plain)}
				s.Else[at] = kid
				return s
			}
			for _, c := range stmtCases() {
				stmtIs(t, with(c.right()), c.kind == api.SExpr)
			}
			for _, e := range wrongAtoms() {
				stmtIs(t, with(exprStmt(e)), false)
			}
			for _, e := range atoms() {
				stmtIs(t, with(exprStmt(e)), true)
			}
			for _, kid := range wrongStatements() {
				stmtIs(t, with(kid), false)
			}
		}
	}
}

// P13.1: the array of a for over keys is an XVar.
func TestForIn(t *testing.T) {
	for _, e := range atoms() {
		s := api.Stmt{Kind: api.SForIn, S: "k", Exprs: []api.Expr{e}}
		stmtIs(t, s, e.Kind == api.XVar)
		s.Exprs = []api.Expr{e, e}
		stmtIs(t, s, false)
		s.Exprs = []api.Expr{variable("t"), e}
		stmtIs(t, s, false)
	}
	for _, e := range wrongAtoms() {
		stmtIs(t, api.Stmt{Kind: api.SForIn, S: "k", Exprs: []api.Expr{e}}, false)
	}
	stmtIs(t, api.Stmt{Kind: api.SForIn, S: "k"}, false)
	stmtIs(t, api.Stmt{Kind: api.SForIn, S: "k", Exprs: values(1), Body: []api.Stmt{exprStmt(number(1))}}, true)
}

// P13.1: exit and return with none, one and two.
func TestExits(t *testing.T) {
	for _, kind := range []api.StmtKind{api.SExit, api.SReturn} {
		for exprs := range 4 {
			stmtIs(t, api.Stmt{Kind: kind, Exprs: values(exprs)}, exprs <= 1)
		}
		for _, e := range atoms() {
			stmtIs(t, api.Stmt{Kind: kind, Exprs: []api.Expr{e}}, true)
		}
	}
}

// P13.1: names where a statement has one.
func TestNamesOfStatements(t *testing.T) {
	longGood, longBad := longNames()
	for _, s := range []api.Stmt{{Kind: api.SForIn, Exprs: values(1)}, {Kind: api.SDelete}, {Kind: api.SDelete, Exprs: values(2)}} {
		for _, name := range append(goodNames(), longGood...) {
			s.S = name
			stmtIs(t, s, true)
		}
		for _, name := range append(badNames(), longBad...) {
			s.S = name
			stmtIs(t, s, false)
		}
		for _, word := range append(builtinWords(), otherWords()...) {
			s.S = word + "1"
			stmtIs(t, s, true)
		}
	}
	for _, c := range stmtCases() {
		s := c.right()
		for _, name := range append(goodNames(), badNames()...) {
			if !c.named && name != "" {
				s.S = name
				programIs(t, begin(s), false)
			}
		}
	}
}

// wrongStatements are not right, each by one thing.
func wrongStatements() []api.Stmt {
	one := []api.Expr{number(1)}
	return []api.Stmt{
		{}, {Kind: 16}, {Kind: api.SExpr}, exprStmt(number(-1)), {Kind: api.SExpr, N: 1, Exprs: one}, {Kind: api.SExpr, S: "x", Exprs: one}, {Kind: api.SExpr, Exprs: of(2, one[0])},
		{Kind: api.SPrint, N: 1}, {Kind: api.SPrint, N: 4, Exprs: one}, {Kind: api.SPrintf}, {Kind: api.SIf}, {Kind: api.SFor, N: 2}, {Kind: api.SFor, N: 1}, {Kind: api.SForIn, S: "k", Exprs: one}, {Kind: api.SForIn, Exprs: values(1)},
		{Kind: api.SBreak, Exprs: one}, {Kind: api.SNext, S: "x"}, {Kind: api.SExit, Exprs: of(2, one[0])}, {Kind: api.SDelete}, {Kind: api.SBlock, Exprs: one}, {Kind: api.SBlock, Body: []api.Stmt{{}}},
	}
}

// P13.1: a part that is not right, at each place of a statement.
func TestWrongParts(t *testing.T) {
	for _, c := range stmtCases() {
		for _, exprs := range c.exprs {
			for _, body := range c.body {
				for _, other := range c.other {
					wrongWithin(t, func() api.Stmt { return c.with(exprs, body, other) })
				}
			}
		}
	}
}

// wrongWithin turns each part of a statement that is right, one by one.
func wrongWithin(t *testing.T, fresh func() api.Stmt) {
	t.Helper()
	programIs(t, begin(fresh()), true)
	for _, wrong := range wrongAtoms() {
		for at := range fresh().Exprs {
			s := fresh()
			s.Exprs[at] = wrong
			programIs(t, begin(s), false)
		}
	}
	for _, wrong := range wrongStatements() {
		for at := range fresh().Body {
			s := fresh()
			s.Body[at] = wrong
			programIs(t, begin(s), false)
		}
		for at := range fresh().Else {
			s := fresh()
			s.Else[at] = wrong
			programIs(t, begin(s), false)
		}
	}
}
