package show

import (
	"strings"
	"testing"

	"winnower/api"
	"winnower/nodes"
)

// nest tells an expression within so many others.
func nest(levels int, inner api.Expr, around func(e api.Expr) api.Expr) api.Expr {
	for range levels {
		inner = around(inner)
	}
	return inner
}

func nestStmt(levels int, inner []api.Stmt, around func(body []api.Stmt) api.Stmt) []api.Stmt {
	for range levels {
		inner = list(around(inner))
	}
	return inner
}

// asDeep tells an expression within as many others as there may be, which are told
// by turns.
func asDeep(inner api.Expr, turns ...around) (deep, deeper api.Expr) {
	deep = inner
	for i := 0; ; i++ {
		deeper = turns[i%len(turns)].of(deep)
		// None adds more than two levels.
		if i >= mostNest/2-1 && !nodes.Expr(deeper) {
			return deep, deeper
		}
		deep = deeper
	}
}

// single are those around one kid, at one place.
func single() []around {
	var one []around
	for _, outer := range arounds() {
		if strings.Count(outer.text, "@") == 1 {
			one = append(one, outer)
		}
	}
	return append(one, around{"v (@)", func(e api.Expr) api.Expr { return expr(api.XCat, "", variable("v"), e) }})
}

// P15.1, P15.2: expressions as deep as they may be, of one kind and of two.
func TestDeepExprs(t *testing.T) {
	for _, outer := range single() {
		for _, leaf := range []api.Expr{variable("a"), pattern("/"), getline(1), expr(api.XCat, "", variable("a"), pattern("="))} {
			deep, deeper := asDeep(leaf, outer)
			tells(t, modelX(deep), deep)
			exprIsNot(t, api.ErrTree, deeper)
			held(t, items(rule(deep), braced(rule(deep, deep))))
			isNot(t, api.ErrTree, items(rule(deeper)))
		}
	}
	for _, outer := range single() {
		for _, other := range single() {
			deep, deeper := asDeep(variable("a"), outer, other)
			held(t, items(braced(rule(variable("v"), deep))))
			isNot(t, api.ErrTree, items(rule(deeper)))
			if t.Failed() {
				return
			}
		}
	}
}

// P15.2: statements as deep as they may be, with expressions as deep as there is
// room for at the end.
func TestDeepStmts(t *testing.T) {
	v := variable("v")
	outers := []func(body []api.Stmt) api.Stmt{
		func(body []api.Stmt) api.Stmt { return block(body...) },
		func(body []api.Stmt) api.Stmt { return has(stmt(api.SIf, v), body...) },
		func(body []api.Stmt) api.Stmt { return ifElse(v, nil, body) },
		func(body []api.Stmt) api.Stmt { return ifElse(v, body, list(stmt(api.SNext))) },
		func(body []api.Stmt) api.Stmt { return has(stmt(api.SWhile, v), body...) },
		func(body []api.Stmt) api.Stmt { return has(stmt(api.SDo, v), body...) },
		func(body []api.Stmt) api.Stmt { return has(stmt(api.SFor), body...) },
		func(body []api.Stmt) api.Stmt {
			return api.Stmt{Kind: api.SFor, N: 7, Exprs: names("v"), Else: of(2, bare(v)), Body: body}
		},
		func(body []api.Stmt) api.Stmt {
			return api.Stmt{Kind: api.SForIn, S: "k", Exprs: names("t"), Body: body}
		},
	}
	for i, outer := range outers {
		for _, other := range outers {
			body := list(stmt(api.SNext))
			for level := range mostNest - 1 {
				if body = list(outer(body)); level%2 == 1 {
					body = list(other(body[0].Body))
				}
			}
			held(t, begin(body...))
		}
		for _, levels := range []int{0, 1, 2, 10, 30, 57, 58} {
			deep := nest(mostNest-2-levels, v, func(e api.Expr) api.Expr { return expr(api.XNot, "", e) })
			p := begin(nestStmt(levels, list(bare(deep)), outer)...)
			if text, err := Show(p); err != api.OK || !strings.Contains(text, strings.Repeat("\t", levels+1)+modelX(deep)+"\n") {
				t.Errorf("statement %d, %d levels: %s, %d", i, levels, brief(text), err)
			}
			held(t, p)
			isNot(t, api.ErrTree, begin(nestStmt(levels, list(bare(expr(api.XNot, "", expr(api.XNeg, "", deep)))), outer)...))
		}
	}
}

// P15.1, P15.2: programs as great as they may be.
func TestGreatPrograms(t *testing.T) {
	v := variable("v")
	writes(t, "BEGIN {\n"+strings.Repeat("\tnext\n", mostNodes)+"}\n", begin(of(mostNodes, stmt(api.SNext))...))
	writes(t, "BEGIN {\n"+strings.Repeat("\tv\n", mostNodes/2)+"}\n", begin(of(mostNodes/2, bare(v))...))
	writes(t, strings.Repeat("v\n", mostNodes), items(of(mostNodes, rule(v))...))
	writes(t, strings.Repeat("v, v {\n\tnext\n}\n", mostNodes/3), items(of(mostNodes/3, braced(rule(v, v), stmt(api.SNext)))...))
	writes(t, "f("+strings.Repeat("v, ", mostNodes-2)+"v)\n", items(rule(expr(api.XCall, "f", of(mostNodes-1, v)...))))
	writes(t, "BEGIN {\n\tprint "+strings.Repeat("1, ", mostNodes-3)+"1 > v\n}\n", begin(printed(api.SPrint, 1, append(of(mostNodes-2, number(1)), v)...)))
	writes(t, "BEGIN {\n"+strings.Repeat("\tif (v) {\n\t} else {\n\t\tnext\n\t}\n", mostNodes/3)+"}\n", begin(of(mostNodes/3, ifElse(v, nil, list(stmt(api.SNext))))...))
}

// doubled tells an expression of so many levels, each of which has the one below
// it twice: of 2^levels - 1 parts.
func doubled(levels int, inner api.Expr) api.Expr {
	return nest(levels-1, inner, func(e api.Expr) api.Expr {
		return api.Expr{Kind: api.XCat, Kids: of(2, e)}
	})
}

// P15.1, R1: one tree within another many times: it is told each time, and of what
// nobody could tell to its end it is soon said that it is too long.
func TestSharedTrees(t *testing.T) {
	v := variable("v")
	tells(t, "((v v) (v v)) ((v v) (v v))", doubled(4, v))
	for levels := 1; levels <= 100; levels++ {
		e := doubled(levels, v)
		switch {
		case levels <= 15:
			tells(t, modelX(e), e)
		case levels <= mostNest:
			exprIsNot(t, api.ErrLong, e)
		default:
			exprIsNot(t, api.ErrTree, e)
		}
		if levels <= 11 {
			held(t, items(rule(e)))
		} else {
			isNot(t, api.ErrTree, items(rule(e)))
		}
	}
	if length := len(modelX(doubled(15, v))); length != 65531 {
		t.Error(length)
	}
	// Of many kinds, and of many kids.
	for kids := range 5 {
		for _, kind := range []api.ExprKind{api.XCall, api.XIndex, api.XIn} {
			e := nest(mostNest-1, v, func(e api.Expr) api.Expr { return expr(kind, "t", of(kids+2, e)...) })
			exprIsNot(t, api.ErrLong, e)
			exprIsNot(t, api.ErrTree, expr(kind, "t", e))
		}
	}
	exprIsNot(t, api.ErrLong, nest(mostNest-1, v, func(e api.Expr) api.Expr { return expr(api.XCond, "", of(3, e)...) }))
	exprIsNot(t, api.ErrLong, nest(mostNest-1, v, func(e api.Expr) api.Expr { return expr(api.XCall, "f", of(1<<5, e)...) }))
	exprIsNot(t, api.ErrLong, expr(api.XCall, "f", of(1<<20, v)...))
	exprIsNot(t, api.ErrLong, expr(api.XCall, "f", of(1<<10, expr(api.XCall, "f", of(1<<8, quote(strings.Repeat("\n", 1<<20)))...))...))
	// Within statements, one list in many places.
	one := of(2, expr(api.XCall, "f", of(3, doubled(3, v))...))
	held(t, items(braced(rule(one...), stmt(api.SPrint, one...), has(stmt(api.SWhile, one[0]), of(5, stmt(api.SPrint, one...))...))))
	body := list(stmt(api.SNext))
	for range 9 {
		body = list(ifElse(v, body, body))
	}
	held(t, begin(body...))
	held(t, begin(block(body...), has(stmt(api.SDo, v), body...)))
}

// R1: lists that stand within themselves are too deep.
func TestListsWithinThemselves(t *testing.T) {
	for kids := 1; kids <= 3; kids++ {
		for kind := range api.ExprKind(25) {
			own := make([]api.Expr, kids)
			e := api.Expr{Kind: kind, S: "f", Kids: own}
			if kind != api.XCall && kind != api.XIndex && kind != api.XIn {
				e.S = ""
			}
			for i := range own {
				own[i] = e
			}
			if text, err := Expr(e); text != "" || err != api.ErrTree {
				t.Errorf("kind %d of %d kids that are its own: %s, %d", kind, kids, brief(text), err)
			}
			if text, err := Show(begin(bare(e))); text != "" || err != api.ErrTree {
				t.Errorf("kind %d of %d kids that are its own: %s, %d", kind, kids, brief(text), err)
			}
		}
		own := make([]api.Stmt, kids)
		s := api.Stmt{Kind: api.SBlock, Body: own}
		for i := range own {
			own[i] = s
		}
		if text, err := Show(begin(s)); text != "" || err != api.ErrTree {
			t.Errorf("a block of %d that are its own: %s, %d", kids, brief(text), err)
		}
	}
}
