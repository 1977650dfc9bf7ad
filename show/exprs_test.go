package show

import (
	"slices"
	"strings"
	"testing"

	"winnower/api"
)

// Chapter 15, examples.
func TestExamples(t *testing.T) {
	a, b := variable("a"), variable("b")
	tells(t, "(a + b) * 2", expr(api.XBin, "*", expr(api.XBin, "+", a, b), number(2)))
	tells(t, `a (/x\/y/)`, expr(api.XCat, "", a, pattern("x/y")))
	tells(t, `"\n\"\001"`, quote("\n\"\x01"))
	tells(t, `"c" | getline x`, getline(11, variable("x"), quote("c")))
}

// exprCase is an expression and its text, but for parentheses around it.
type exprCase struct {
	text   string
	closed bool // as a kid it has none, either
	e      api.Expr
}

// exprCases are expressions of all kinds, with all N and all S that have a list.
func exprCases() []exprCase {
	a, b, c := variable("a"), variable("b"), variable("c")
	cases := []exprCase{
		{"12", true, number(12)},
		{"0.5", true, number(0.5)},
		{`"s"`, true, quote("s")},
		{"/r/", true, pattern("r")},
		{"/=/", true, pattern("=")},
		{"x", true, variable("x")},
		{"t[a]", true, expr(api.XIndex, "t", a)},
		{"t[a, b]", true, expr(api.XIndex, "t", a, b)},
		{"$a", true, expr(api.XField, "", a)},
		{"a ? b : c", false, expr(api.XCond, "", a, b, c)},
		{"a || b", false, expr(api.XOr, "", a, b)},
		{"a && b", false, expr(api.XAnd, "", a, b)},
		{"! a", false, expr(api.XNot, "", a)},
		{"- a", false, expr(api.XNeg, "", a)},
		{"+ a", false, expr(api.XPlus, "", a)},
		{"a in t", false, expr(api.XIn, "t", a)},
		{"(a, b) in t", false, expr(api.XIn, "t", a, b)},
		{"a b", false, expr(api.XCat, "", a, b)},
		{"a (/r/)", false, expr(api.XCat, "", a, pattern("r"))},
		{"f()", true, expr(api.XCall, "f")},
		{"f(a)", true, expr(api.XCall, "f", a)},
		{"f(a, b, c)", true, expr(api.XCall, "f", a, b, c)},
		{"getline", false, getline(1)},
		{"getline < a", false, getline(2, a)},
		{"a | getline", false, getline(3, a)},
		{"getline a", false, getline(9, a)},
		{"getline a < b", false, getline(10, a, b)},
		{"b | getline a", false, getline(11, a, b)},
	}
	for _, kind := range []api.ExprKind{api.XAssign, api.XMatch, api.XCmp, api.XBin} {
		for _, s := range signsOf(kind) {
			cases = append(cases, exprCase{"a " + s + " b", false, expr(kind, s, a, b)})
		}
	}
	for _, s := range signsOf(api.XPre) {
		cases = append(cases, exprCase{s + "a", false, expr(api.XPre, s, a)}, exprCase{"a" + s, false, expr(api.XPost, s, a)})
	}
	for _, s := range builtinWords() {
		cases = append(cases, exprCase{s + "()", true, expr(api.XBuiltin, s)}, exprCase{s + "(a, b)", true, expr(api.XBuiltin, s, a, b)})
	}
	return cases
}

// P15.1: each row of the table, wherever an expression may stand.
func TestEachRow(t *testing.T) {
	kinds := map[api.ExprKind]int{}
	for _, c := range exprCases() {
		shows(t, c.text, c.closed, c.e)
		kinds[c.e.Kind]++
	}
	if len(kinds) != 23 {
		t.Errorf("%d kinds", len(kinds))
	}
}

// around is an expression of a kid, or two, and its text: a @ stands for the kid.
type around struct {
	text string
	of   func(e api.Expr) api.Expr
}

// arounds are all kinds, with one kid at each place.
func arounds() []around {
	v, w := variable("v"), variable("w")
	list := []around{
		{"t[@]", func(e api.Expr) api.Expr { return expr(api.XIndex, "t", e) }},
		{"t[v, @]", func(e api.Expr) api.Expr { return expr(api.XIndex, "t", v, e) }},
		{"t[@, w, @]", func(e api.Expr) api.Expr { return expr(api.XIndex, "t", e, w, e) }},
		{"$@", func(e api.Expr) api.Expr { return expr(api.XField, "", e) }},
		{"$$@", func(e api.Expr) api.Expr { return expr(api.XField, "", expr(api.XField, "", e)) }},
		{"@ ? v : w", func(e api.Expr) api.Expr { return expr(api.XCond, "", e, v, w) }},
		{"v ? @ : w", func(e api.Expr) api.Expr { return expr(api.XCond, "", v, e, w) }},
		{"v ? w : @", func(e api.Expr) api.Expr { return expr(api.XCond, "", v, w, e) }},
		{"@ || v", func(e api.Expr) api.Expr { return expr(api.XOr, "", e, v) }},
		{"v || @", func(e api.Expr) api.Expr { return expr(api.XOr, "", v, e) }},
		{"@ && v", func(e api.Expr) api.Expr { return expr(api.XAnd, "", e, v) }},
		{"v && @", func(e api.Expr) api.Expr { return expr(api.XAnd, "", v, e) }},
		{"! @", func(e api.Expr) api.Expr { return expr(api.XNot, "", e) }},
		{"- @", func(e api.Expr) api.Expr { return expr(api.XNeg, "", e) }},
		{"+ @", func(e api.Expr) api.Expr { return expr(api.XPlus, "", e) }},
		{"@ in t", func(e api.Expr) api.Expr { return expr(api.XIn, "t", e) }},
		{"(@, v) in t", func(e api.Expr) api.Expr { return expr(api.XIn, "t", e, v) }},
		{"(v, @) in t", func(e api.Expr) api.Expr { return expr(api.XIn, "t", v, e) }},
		{"@ v", func(e api.Expr) api.Expr { return expr(api.XCat, "", e, v) }},
		{"f(@)", func(e api.Expr) api.Expr { return expr(api.XCall, "f", e) }},
		{"f(v, @, w)", func(e api.Expr) api.Expr { return expr(api.XCall, "f", v, e, w) }},
		{"substr(@)", func(e api.Expr) api.Expr { return expr(api.XBuiltin, "substr", e) }},
		{"length(v, @)", func(e api.Expr) api.Expr { return expr(api.XBuiltin, "length", v, e) }},
		{"getline < @", func(e api.Expr) api.Expr { return getline(2, e) }},
		{"@ | getline", func(e api.Expr) api.Expr { return getline(3, e) }},
		{"getline v < @", func(e api.Expr) api.Expr { return getline(10, v, e) }},
		{"@ | getline v", func(e api.Expr) api.Expr { return getline(11, v, e) }},
		{"@ | getline $v", func(e api.Expr) api.Expr { return getline(11, expr(api.XField, "", v), e) }},
	}
	for _, kind := range []api.ExprKind{api.XMatch, api.XCmp, api.XBin} {
		for _, s := range signsOf(kind) {
			list = append(list, around{"@ " + s + " v", func(e api.Expr) api.Expr { return expr(kind, s, e, v) }})
			list = append(list, around{"v " + s + " @", func(e api.Expr) api.Expr { return expr(kind, s, v, e) }})
		}
	}
	for _, s := range signsOf(api.XAssign) {
		list = append(list, around{"v " + s + " @", func(e api.Expr) api.Expr { return expr(api.XAssign, s, v, e) }})
		list = append(list, around{"$v " + s + " @", func(e api.Expr) api.Expr { return expr(api.XAssign, s, expr(api.XField, "", v), e) }})
	}
	return list
}

// lvaluesAround are those whose kid has to be an lvalue.
func lvaluesAround() []around {
	v := variable("v")
	list := []around{
		{"getline @", func(e api.Expr) api.Expr { return getline(9, e) }},
		{"getline @ < v", func(e api.Expr) api.Expr { return getline(10, e, v) }},
		{"v | getline @", func(e api.Expr) api.Expr { return getline(11, e, v) }},
	}
	for _, s := range signsOf(api.XPre) {
		list = append(list, around{s + "@", func(e api.Expr) api.Expr { return expr(api.XPre, s, e) }})
		list = append(list, around{"@" + s, func(e api.Expr) api.Expr { return expr(api.XPost, s, e) }})
	}
	for _, s := range signsOf(api.XAssign) {
		list = append(list, around{"@ " + s + " v", func(e api.Expr) api.Expr { return expr(api.XAssign, s, e, v) }})
	}
	return list
}

// asKid is the text of an expression as a kid.
func asKid(text string, kind api.ExprKind) string {
	closed := []api.ExprKind{api.XNum, api.XStr, api.XRe, api.XVar, api.XIndex, api.XField, api.XCall, api.XBuiltin}
	if slices.Contains(closed, kind) {
		return text
	}
	return "(" + text + ")"
}

// P15.1, P15.2: each kind as each kid of each kind: what stands in parentheses,
// and what doesn't.
func TestEachKid(t *testing.T) {
	try := func(want string, e api.Expr) {
		t.Helper()
		tells(t, want, e)
		writes(t, want+"\n", items(rule(e)))
		kid := asKid(want, e.Kind)
		writes(t, "END {\n\t"+want+"\n\tprint "+kid+", f("+kid+") > "+kid+"\n}\n", items(api.Item{Kind: api.IEnd, Body: []api.Stmt{
			bare(e), printed(api.SPrint, 1, e, expr(api.XCall, "f", e), e)}}))
	}
	for _, c := range exprCases() {
		kid := asKid(c.text, c.e.Kind)
		if c.closed != (kid == c.text) {
			t.Errorf("%s has parentheses or not", c.text)
		}
		for _, outer := range arounds() {
			try(strings.ReplaceAll(outer.text, "@", kid), outer.of(c.e))
		}
		second := expr(api.XCat, "", variable("v"), c.e)
		if c.e.Kind == api.XRe {
			try("v ("+c.text+")", second)
		} else {
			try("v "+kid, second)
		}
		for _, outer := range lvaluesAround() {
			if c.e.Kind == api.XVar || c.e.Kind == api.XIndex || c.e.Kind == api.XField {
				try(strings.ReplaceAll(outer.text, "@", c.text), outer.of(c.e))
			} else {
				exprIsNot(t, api.ErrTree, outer.of(c.e))
			}
		}
		if t.Failed() {
			return
		}
	}
}

// P15.1, P15.2: a kid within a kid of each kind.
func TestKidsOfKids(t *testing.T) {
	a := variable("a")
	leaves := []exprCase{{"a", true, a}, {"/r/", true, pattern("r")}, {"getline", false, getline(1)}, {"1e+20", true, number(1e20)}, {"(a, a) in t", false, expr(api.XIn, "t", a, a)}}
	for _, leaf := range leaves {
		for _, inner := range arounds() {
			text := strings.ReplaceAll(inner.text, "@", asKid(leaf.text, leaf.e.Kind))
			e := inner.of(leaf.e)
			for _, outer := range arounds() {
				want := strings.ReplaceAll(outer.text, "@", asKid(text, e.Kind))
				if got, err := Expr(outer.of(e)); got != want || err != api.OK {
					t.Fatalf("Expr = %s, %d; want %s", got, err, want)
				}
				goesBack(t, begin(bare(outer.of(e))), "BEGIN {\n\t"+want+"\n}\n")
			}
			if t.Failed() {
				return
			}
		}
	}
}

// P15.1: lists of one, of two and of many; of none, where there may be.
func TestLists(t *testing.T) {
	e := expr(api.XCat, "", variable("a"), number(1))
	for n := range 12 {
		list := strings.TrimSuffix(strings.Repeat("(a 1), ", n), ", ")
		shows(t, "f("+list+")", true, expr(api.XCall, "f", of(n, e)...))
		shows(t, "sprintf("+list+")", true, expr(api.XBuiltin, "sprintf", of(n, e)...))
		if n == 0 {
			exprIsNot(t, api.ErrTree, expr(api.XIndex, "t"))
			exprIsNot(t, api.ErrTree, expr(api.XIn, "t"))
			continue
		}
		shows(t, "t["+list+"]", true, expr(api.XIndex, "t", of(n, e)...))
		if n == 1 {
			shows(t, "(a 1) in t", false, expr(api.XIn, "t", e))
		} else {
			shows(t, "("+list+") in t", false, expr(api.XIn, "t", of(n, e)...))
		}
	}
	many := of(1000, variable("abc"))
	list := strings.TrimSuffix(strings.Repeat("abc, ", 1000), ", ")
	tells(t, "f("+list+")", expr(api.XCall, "f", many...))
	writes(t, "f("+list+")\n", items(rule(expr(api.XCall, "f", many...))))
	writes(t, "t["+list+"]\n", items(rule(expr(api.XIndex, "t", many...))))
	writes(t, "("+list+") in t\n", items(rule(expr(api.XIn, "t", many...))))
	writesStmts(t, "print "+list+"\n", stmt(api.SPrint, many...))
	// Different ones stay in their order.
	shows(t, "f(a, t[1, /x/], $2, ((b, c) in t), \"s\")", true, expr(api.XCall, "f", variable("a"), expr(api.XIndex, "t", number(1), pattern("x")), expr(api.XField, "", number(2)), expr(api.XIn, "t", names("b", "c")...), quote("s")))
}
