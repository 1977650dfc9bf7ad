package nodes

import (
	"math"
	"reflect"
	"testing"

	"winnower/api"
)

// Chapter 13, examples.
func TestExamples(t *testing.T) {
	exprIs(t, expr(api.XBin, "+", number(1), number(2)), true)
	exprIs(t, expr(api.XBin, "++", number(1), number(2)), false)
	exprIs(t, variable("in"), false)
	exprIs(t, expr(api.XRe, "a\\"), false)
	stmtIs(t, api.Stmt{Kind: api.SFor, N: 2, Exprs: values(1)}, true)
	programIs(t, items(api.Item{Kind: api.IRule}), false)
}

// doubled tells an expression of so many levels, each of which has the one below
// it twice: of 2^levels - 1 parts.
func doubled(levels int, inner api.Expr) api.Expr {
	for range levels - 1 {
		inner = expr(api.XCat, "", inner, inner)
	}
	return inner
}

// R1: lists that stand at many places are soon gone through, though the parts
// were more than anybody could count one by one.
func TestSharedLists(t *testing.T) {
	for _, levels := range []int{1, 2, 12, 30, 59, 60, 61, 62, 200} {
		e := doubled(levels, variable("v"))
		if got := Expr(e); got != (levels <= mostNest) {
			t.Errorf("%d levels, doubled: %v", levels, got)
		}
		count := min(levels, mostNest+1)
		sizeOfShared(t, items(rule(e)), 1<<count-1, count)
		if got := Right(items(rule(e))); got != (levels <= 11) {
			t.Errorf("a program of %d levels, doubled: %v", levels, got)
		}
		if Expr(doubled(levels, number(-1))) {
			t.Errorf("%d levels, doubled, of what is not right, are right", levels)
		}
	}
	s := api.Stmt{Kind: api.SNext}
	for range 59 {
		s = api.Stmt{Kind: api.SIf, Exprs: []api.Expr{variable("v")}, Body: []api.Stmt{s}, Else: []api.Stmt{s}}
	}
	// 2^60 - 1 statements, and an expression in each, but for the last ones.
	sizeOfShared(t, begin(s), 1<<60-1+1<<59-1, 60)
	if Right(begin(s)) {
		t.Error("a program of 2^60 parts is right")
	}
}

// sizeOfShared does not tell the program: it would not end.
func sizeOfShared(t *testing.T, p api.Program, size, depth int) {
	t.Helper()
	if n, d := Size(p); n != size || d != depth {
		t.Errorf("the size is %d, %d; want %d, %d", n, d, size, depth)
	}
}

// R1: lists that stand within themselves have an end, too: they are too deep.
func TestListsWithinThemselves(t *testing.T) {
	for kids := 1; kids <= 5; kids++ {
		for kind := range api.ExprKind(25) {
			list := make([]api.Expr, kids)
			e := api.Expr{Kind: kind, Kids: list}
			for i := range list {
				list[i] = e
			}
			if Expr(e) || Right(items(rule(e))) || Right(begin(exprStmt(e))) {
				t.Errorf("kind %d of %d kids that are its own is right", kind, kids)
			}
		}
		list := make([]api.Stmt, kids)
		s := api.Stmt{Kind: api.SIf, Exprs: values(1), Body: list, Else: list}
		for i := range list {
			list[i] = s
		}
		if Right(begin(s)) {
			t.Errorf("a statement of %d that are its own is right", kids)
		}
	}
	own := make([]api.Expr, 1)
	own[0] = api.Expr{Kind: api.XNot, Kids: own}
	sizeOfShared(t, items(rule(own...)), 61, 61)
	sizeOfShared(t, items(rule(own...), rule(own[0], own[0])), 183, 61)
	two := make([]api.Expr, 2)
	two[0] = api.Expr{Kind: api.XCat, Kids: two}
	two[1] = two[0]
	sizeOfShared(t, items(rule(two...)), 1<<62-2, 61)
}

// R1: parts that are too many for an int never seem few, or deep.
func TestPartsBeyondAnInt(t *testing.T) {
	for _, kids := range []int{3, 4, 16, 256} {
		e := variable("v")
		for range 59 {
			e = expr(api.XCall, "f", of(kids, e)...)
		}
		p := items(rule(e), rule(e, e))
		sizeOfShared(t, p, math.MaxInt, 60)
		if Right(p) {
			t.Errorf("%d kids of %d kids .. are right", kids, kids)
		}
		if !Expr(e) || Expr(not(e)) {
			t.Errorf("%d kids of %d kids .., an expression by itself: %v, one level more: %v", kids, kids, Expr(e), Expr(not(e)))
		}
	}
}

// R1: all arguments, empty ones and wide ones.
func TestAnyArguments(t *testing.T) {
	programIs(t, api.Program{}, true)
	sizeIs(t, api.Program{}, 0, 0)
	exprIs(t, api.Expr{}, false)
	wide := expr(api.XCall, "f", values(1<<18)...)
	if !Expr(wide) || Right(items(rule(wide))) {
		t.Error("2^18 kids")
	}
	sizeOfShared(t, items(rule(wide)), 1<<18+1, 2)
	programIs(t, items(make([]api.Item, 1<<12)...), false)
	sizeIs(t, items(make([]api.Item, 1<<12)...), 0, 0)
	programIs(t, begin(make([]api.Stmt, 1<<12)...), false)
	sizeIs(t, begin(make([]api.Stmt, 1<<12)...), 1<<12, 1)
}

// R3: what is handed in is as it was, its spare room too; R6: a list of no
// elements is as none.
func TestHandedIn(t *testing.T) {
	some := []api.Program{{}, items(rightItems()...), items(of(4, api.Item{})...)}
	for _, e := range append(atoms(), wrongAtoms()...) {
		some = append(some, items(rule(e, not(e))), begin(exprStmt(e)))
	}
	for _, c := range stmtCases() {
		some = append(some, begin(c.right(), c.right()))
	}
	for _, s := range wrongStatements() {
		some = append(some, begin(s, block(s)))
	}
	for _, around := range aroundExprs() {
		some = append(some, items(rule(nestExpr(60, around))), items(rule(nestExpr(63, around))))
	}
	w := wild{seeded()}
	for range 500 {
		some = append(some, w.program())
	}
	for _, p := range some {
		held(t, p)
		roomier := roomyProgram(p)
		right := Right(p)
		size, depth := Size(p)
		held(t, roomier)
		programIs(t, roomier, right)
		sizeIs(t, roomier, size, depth)
		for _, it := range roomier.Items {
			es, _ := partsOf(it.Exprs, it.Body)
			for _, e := range es {
				before := allOfExprs([]api.Expr{*e})
				got := Expr(*e)
				if !reflect.DeepEqual(before, allOfExprs([]api.Expr{*e})) {
					t.Errorf("%s was changed", brief(*e))
				}
				if got != modelWhole(*e) {
					t.Errorf("Expr(%s) = %v", brief(*e), got)
				}
			}
		}
	}
}

// R4: nothing is kept from call to call: what was handed in once and is another
// now is told anew.
func TestCallsByThemselves(t *testing.T) {
	kids := []api.Expr{variable("a"), number(1)}
	e := expr(api.XCat, "", kids...)
	p := items(rule(e))
	for range 3 {
		exprIs(t, e, true)
		sizeIs(t, p, 3, 1+1)
		e.Kids[0] = number(-1)
		exprIs(t, e, false)
		programIs(t, p, false)
		e.Kids[0] = expr(api.XNot, "", variable("a"))
		exprIs(t, e, true)
		programIs(t, p, true)
		sizeIs(t, p, 4, 3)
		e.Kids[0] = variable("a")
	}
}
