package show

import (
	"strings"
	"testing"

	"winnower/api"
)

// P15.1: what stands ahead and behind, of all lvalues.
func TestSteps(t *testing.T) {
	a, b := variable("a"), variable("b")
	for _, c := range []struct {
		text string
		e    api.Expr
	}{
		{"a", a},
		{"t[a]", expr(api.XIndex, "t", a)},
		{"t[(a b), 1]", expr(api.XIndex, "t", expr(api.XCat, "", a, b), number(1))},
		{"$a", expr(api.XField, "", a)},
		{"$0", expr(api.XField, "", number(0))},
		{"$$a", expr(api.XField, "", expr(api.XField, "", a))},
		{"$(a++)", expr(api.XField, "", expr(api.XPost, "++", a))},
		{"$(++a)", expr(api.XField, "", expr(api.XPre, "++", a))},
		{"$t[a]", expr(api.XField, "", expr(api.XIndex, "t", a))},
	} {
		shows(t, "++"+c.text, false, expr(api.XPre, "++", c.e))
		shows(t, "--"+c.text, false, expr(api.XPre, "--", c.e))
		shows(t, c.text+"++", false, expr(api.XPost, "++", c.e))
		shows(t, c.text+"--", false, expr(api.XPost, "--", c.e))
		for _, s := range signsOf(api.XAssign) {
			shows(t, c.text+" "+s+" "+c.text, false, expr(api.XAssign, s, c.e, c.e))
		}
		shows(t, "getline "+c.text, false, getline(9, c.e))
		shows(t, "getline "+c.text+" < "+c.text, false, getline(10, c.e, c.e))
		shows(t, c.text+" | getline "+c.text, false, getline(11, c.e, c.e))
	}
	shows(t, "(a++) + (++b)", false, expr(api.XBin, "+", expr(api.XPost, "++", a), expr(api.XPre, "++", b)))
	shows(t, "(a--) - (--b)", false, expr(api.XBin, "-", expr(api.XPost, "--", a), expr(api.XPre, "--", b)))
	shows(t, "- (--a)", false, expr(api.XNeg, "", expr(api.XPre, "--", a)))
	shows(t, "+ (++a)", false, expr(api.XPlus, "", expr(api.XPre, "++", a)))
	shows(t, "(a++) (++b)", false, expr(api.XCat, "", expr(api.XPost, "++", a), expr(api.XPre, "++", b)))
}

// P15.1: fields of fields, of signs, of ++ and of all else.
func TestFields(t *testing.T) {
	field := func(e api.Expr) api.Expr { return expr(api.XField, "", e) }
	a, b := variable("a"), variable("b")
	for _, c := range []struct {
		want string
		kid  api.Expr
	}{
		{"$0", number(0)}, {"$1.5", number(1.5)}, {"$1e+20", number(1e20)}, {`$"1"`, quote("1")}, {"$/=/", pattern("=")}, {"$a", a}, {"$t[a]", expr(api.XIndex, "t", a)}, {"$$a", field(a)}, {"$$$$a", field(field(field(a)))},
		{"$(- a)", expr(api.XNeg, "", a)}, {"$(+ a)", expr(api.XPlus, "", a)}, {"$(! a)", expr(api.XNot, "", a)}, {"$(- (- a))", expr(api.XNeg, "", expr(api.XNeg, "", a))}, {"$(- $a)", expr(api.XNeg, "", field(a))}, {"$$(- a)", field(expr(api.XNeg, "", a))},
		{"$(++a)", expr(api.XPre, "++", a)}, {"$(--a)", expr(api.XPre, "--", a)}, {"$(a++)", expr(api.XPost, "++", a)}, {"$(a--)", expr(api.XPost, "--", a)}, {"$(++$a)", expr(api.XPre, "++", field(a))}, {"$($a++)", expr(api.XPost, "++", field(a))}, {"$$(a++)", field(expr(api.XPost, "++", a))},
		{"$(a + b)", expr(api.XBin, "+", a, b)}, {"$(a b)", expr(api.XCat, "", a, b)}, {"$(a = b)", expr(api.XAssign, "=", a, b)}, {"$(getline)", getline(1)}, {"$f(a)", expr(api.XCall, "f", a)}, {"$length()", expr(api.XBuiltin, "length")}, {"$(a in t)", expr(api.XIn, "t", a)}, {"$((a, b) in t)", expr(api.XIn, "t", a, b)},
	} {
		shows(t, c.want, true, field(c.kid))
	}
}

// P15.1: a second one that is a pattern stands in parentheses, a first one doesn't.
func TestCats(t *testing.T) {
	cat := func(first, second api.Expr) api.Expr { return expr(api.XCat, "", first, second) }
	a, b, re := variable("a"), variable("b"), pattern("x/y")
	shows(t, "a b", false, cat(a, b))
	shows(t, `a (/x\/y/)`, false, cat(a, re))
	shows(t, `/x\/y/ a`, false, cat(re, a))
	shows(t, `/x\/y/ (/x\/y/)`, false, cat(re, re))
	shows(t, `(a (/x\/y/)) (/x\/y/)`, false, cat(cat(a, re), re))
	shows(t, `(a b) (/=/)`, false, cat(cat(a, b), pattern("=")))
	shows(t, `a (/x\/y/ b)`, false, cat(a, cat(re, b)))
	shows(t, `a (b (/x\/y/))`, false, cat(a, cat(b, re)))
	shows(t, "a (! /=/)", false, cat(a, expr(api.XNot, "", pattern("="))))
	shows(t, "1 2", false, cat(number(1), number(2)))
	shows(t, "1 0.5", false, cat(number(1), number(0.5)))
	shows(t, `1 "2"`, false, cat(number(1), quote("2")))
	shows(t, "a 1", false, cat(a, number(1)))
	shows(t, "1 e5", false, cat(number(1), variable("e5")))
	shows(t, "a $b", false, cat(a, expr(api.XField, "", b)))
	shows(t, "a f(b)", false, cat(a, expr(api.XCall, "f", b)))
	shows(t, "a t[b]", false, cat(a, expr(api.XIndex, "t", b)))
	shows(t, "a (- b)", false, cat(a, expr(api.XNeg, "", b)))
	shows(t, "length() length()", false, cat(expr(api.XBuiltin, "length"), expr(api.XBuiltin, "length")))
	shows(t, "a (getline)", false, cat(a, getline(1)))
	shows(t, "(getline) a", false, cat(getline(1), a))
	shows(t, "(getline a) b", false, cat(getline(9, a), b))
}

// P15.1: keys, one and many.
func TestIns(t *testing.T) {
	a, b := variable("a"), variable("b")
	ab := expr(api.XIn, "t", a, b)
	shows(t, "a in t", false, expr(api.XIn, "t", a))
	shows(t, "(a b) in t", false, expr(api.XIn, "t", expr(api.XCat, "", a, b)))
	shows(t, "(a, b) in t", false, ab)
	shows(t, "((a, b) in t) in u", false, expr(api.XIn, "u", ab))
	shows(t, "((a in t), b) in u", false, expr(api.XIn, "u", expr(api.XIn, "t", a), b))
	shows(t, "(((a, b) in t), ((a, b) in t)) in u", false, expr(api.XIn, "u", ab, ab))
	shows(t, "(a in t) in u", false, expr(api.XIn, "u", expr(api.XIn, "t", a)))
	shows(t, "((a > b), (a = b), /x/) in t", false, expr(api.XIn, "t", expr(api.XCmp, ">", a, b), expr(api.XAssign, "=", a, b), pattern("x")))
	shows(t, "("+strings.Repeat("a, ", 30)+"b) in t", false, expr(api.XIn, "t", append(of(30, a), b)...))
	shows(t, "! ((a, b) in t)", false, expr(api.XNot, "", ab))
	shows(t, "((a, b) in t) ? (a in t) : b", false, expr(api.XCond, "", ab, expr(api.XIn, "t", a), b))
	// A for of such is none over keys.
	writesStmts(t, "for (a in t; ; ) {\n}\nfor ((a, b) in t; a in t; (a, b) in t) {\n}\nfor (a in t) {\n}\n",
		api.Stmt{Kind: api.SFor, N: 1, Else: of(1, bare(expr(api.XIn, "t", a)))},
		api.Stmt{Kind: api.SFor, N: 7, Exprs: []api.Expr{expr(api.XIn, "t", a)}, Else: of(2, bare(ab))},
		api.Stmt{Kind: api.SForIn, S: "a", Exprs: names("t")})
}

// P15.1: each getline, by itself and within others.
func TestGetlines(t *testing.T) {
	a, x, f := variable("a"), variable("x"), quote("f")
	field, index := expr(api.XField, "", a), expr(api.XIndex, "t", a, x)
	for _, c := range []struct {
		want string
		e    api.Expr
	}{
		{"getline", getline(1)}, {"getline x", getline(9, x)}, {"getline $a", getline(9, field)}, {"getline t[a, x]", getline(9, index)},
		{`getline < "f"`, getline(2, f)}, {`getline x < "f"`, getline(10, x, f)}, {`getline $a < "f"`, getline(10, field, f)}, {`getline t[a, x] < "f"`, getline(10, index, f)},
		{`"f" | getline`, getline(3, f)}, {`"f" | getline x`, getline(11, x, f)}, {`"f" | getline $a`, getline(11, field, f)}, {`"f" | getline t[a, x]`, getline(11, index, f)},
		{"getline < (a x)", getline(2, expr(api.XCat, "", a, x))}, {"getline x < (a < x)", getline(10, x, expr(api.XCmp, "<", a, x))}, {"getline < $a", getline(2, field)}, {"getline < (- a)", getline(2, expr(api.XNeg, "", a))}, {"getline < (++a)", getline(2, expr(api.XPre, "++", a))}, {"getline < f()", getline(2, expr(api.XCall, "f"))},
		{"(a x) | getline", getline(3, expr(api.XCat, "", a, x))}, {"(a > x) | getline a", getline(11, a, expr(api.XCmp, ">", a, x))}, {"a | getline x", getline(11, x, a)}, {"getline a < x", getline(10, a, x)},
		{"(getline) | getline", getline(3, getline(1))}, {`("f" | getline) | getline x`, getline(11, x, getline(3, f))}, {"getline < (getline)", getline(2, getline(1))}, {"getline x < (getline x < a)", getline(10, x, getline(10, x, a))}, {"getline < (getline < a)", getline(2, getline(2, a))},
	} {
		shows(t, c.want, false, c.e)
		shows(t, "("+c.want+") > 0", false, expr(api.XCmp, ">", c.e, number(0)))
		shows(t, "a < ("+c.want+")", false, expr(api.XCmp, "<", a, c.e))
		shows(t, "! ("+c.want+")", false, expr(api.XNot, "", c.e))
		shows(t, "f(("+c.want+"), a)", true, expr(api.XCall, "f", c.e, a))
	}
}

// P15.1: length has parentheses, whatever it has within them.
func TestLength(t *testing.T) {
	a := variable("a")
	length := func(kids ...api.Expr) api.Expr { return expr(api.XBuiltin, "length", kids...) }
	shows(t, "length()", true, length())
	shows(t, "length(a)", true, length(a))
	shows(t, "length($0)", true, length(expr(api.XField, "", number(0))))
	shows(t, "length((a a))", true, length(expr(api.XCat, "", a, a)))
	shows(t, "length(length(), a)", true, length(length(), a))
	shows(t, "length() a", false, expr(api.XCat, "", length(), a))
	shows(t, "length() (a || a)", false, expr(api.XCat, "", length(), expr(api.XOr, "", a, a)))
	shows(t, "length() + 1", false, expr(api.XBin, "+", length(), number(1)))
	shows(t, "length() / 2", false, expr(api.XBin, "/", length(), number(2)))
	shows(t, "length() > a", false, expr(api.XCmp, ">", length(), a))
	shows(t, "$length()", true, expr(api.XField, "", length()))
	shows(t, "length() in t", false, expr(api.XIn, "t", length()))
}

// P15.1: operations of the same kind within one another, on both sides.
func TestOperations(t *testing.T) {
	a, b, c := variable("a"), variable("b"), variable("c")
	for _, kind := range []api.ExprKind{api.XMatch, api.XCmp, api.XBin} {
		for _, s := range signsOf(kind) {
			for _, u := range signsOf(kind) {
				shows(t, "(a "+s+" b) "+u+" c", false, expr(kind, u, expr(kind, s, a, b), c))
				shows(t, "a "+s+" (b "+u+" c)", false, expr(kind, s, a, expr(kind, u, b, c)))
			}
		}
	}
	shows(t, "a = (b += (c ^= a))", false, expr(api.XAssign, "=", a, expr(api.XAssign, "+=", b, expr(api.XAssign, "^=", c, a))))
	shows(t, "(a ? b : c) ? (a ? b : c) : (a ? b : c)", false, expr(api.XCond, "", of(3, expr(api.XCond, "", a, b, c))...))
	shows(t, "(a || b) && (c || a)", false, expr(api.XAnd, "", expr(api.XOr, "", a, b), expr(api.XOr, "", c, a)))
	shows(t, "(a && b) || (c && a)", false, expr(api.XOr, "", expr(api.XAnd, "", a, b), expr(api.XAnd, "", c, a)))
	shows(t, "! (! a)", false, expr(api.XNot, "", expr(api.XNot, "", a)))
	shows(t, "- (- (+ a))", false, expr(api.XNeg, "", expr(api.XNeg, "", expr(api.XPlus, "", a))))
	shows(t, "- (a ^ b)", false, expr(api.XNeg, "", expr(api.XBin, "^", a, b)))
	shows(t, "(- a) ^ (- b)", false, expr(api.XBin, "^", expr(api.XNeg, "", a), expr(api.XNeg, "", b)))
	shows(t, "f(g(), f(a, (b c)), substr(t[(a in u)], (- 1)))", true, expr(api.XCall, "f", expr(api.XCall, "g"), expr(api.XCall, "f", a, expr(api.XCat, "", b, c)),
		expr(api.XBuiltin, "substr", expr(api.XIndex, "t", expr(api.XIn, "u", a)), expr(api.XNeg, "", number(1)))))
}
