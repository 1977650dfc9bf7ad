package resolve

import (
	"fmt"
	"strings"
	"testing"

	"winnower/api"
)

// P16.3: globals are told in the order in which they come first.
func TestOrderOfGlobals(t *testing.T) {
	names(t, "a b c", "{ a b c }")
	names(t, "c b a", "{ c; b } { a }")
	names(t, "c b a", "{ c; b; c; b } { a; b; c }")
	names(t, "b a", "b { a }")
	names(t, "b c a", "b, c { a; b }")
	names(t, "d b c a e", "{ d } b, c { a } END { e }")
	// An array of its own is ahead of its keys.
	names(t, "t[] a b", "{ t[a, b] }")
	names(t, "t[] a b", "{ (a, b) in t }")
	names(t, "t[] a", "{ a in t }")
	names(t, "t[] u[] a", "{ t[u[a]] }")
	names(t, "t[] a b", "{ delete t[a, b] }")
	// A statement's S is ahead of the rest.
	names(t, "k t[] a", "{ for (k in t) a }")
	names(t, "b a t[]", "{ b; for (a in t) b }")
	names(t, "a b", "{ a = b }")
	names(t, "t[] a b", "{ t[a] = b }")
	names(t, "a b c", "{ a ? b : c }")
	names(t, "a b", "{ $a = b }")
	names(t, "a b", "{ getline a < b }")
	names(t, "a b", "{ b | getline a }")
	names(t, "a t[] b", "{ split(a, t, b) }")
	names(t, "a b t[] c", "{ sub(a, b, t[c]) }")
	names(t, "a b c", "{ print a, b > c }")
	names(t, "a", "{ length(a) }")
	// Statements within others.
	names(t, "a b c d", "{ if (a) b; else c; d }")
	names(t, "a b c", "{ while (a) b; c }")
	names(t, "b a c", "{ do a; while (b); c }")
	names(t, "b a c d e", "{ for (a; b; c) d; e }")
	names(t, "a c d", "{ for (a; ; c) d }")
	names(t, "b d", "{ for (; b; ) d }")
	names(t, "b c d", "{ for (; b; c) d }")
	names(t, "a b c d e", "{ { a; { b } } { c } d } { e }")
	// Arguments, and what they are tied to.
	names(t, "a b | f0(x y)", "function f(x, y) { } { f(a, b) }")
	names(t, "b a | f0(x y)", "function f(x, y) { } { f(b, a) }")
	names(t, "y x | f0(x y)", "function f(x, y) { } { f(y, x) }")
	names(t, "c a b | f1(x)", "{ c } function f(x) { a; b; x }")
	names(t, "a b | f2(x)", "{ a } { f(b) } function f(x) { a; b; x }")
	names(t, "a | f0(x y)", "function f(x, y) { a } { f(a, a) }")
	// Specials and parameters are none of them.
	names(t, "a", "{ NR; a; NF; FS = OFS }")
	names(t, "", "{ NR; NF }")
	names(t, "f0(a b)", "function f(a, b) { a; b }")
	names(t, "a | f0(a b)", "function f(a, b) { a; b } { a }")
	names(t, "b a | f0(a)", "function f(a) { a; b } { a }")
	// A name that comes many times is told once.
	names(t, "a b[]", "{ a; a; b[a]; b[a] } a { a } END { for (a in b) delete b[a] }")
	names(t, "a A aa Aa", "{ a A aa Aa a A aa Aa }")
}

// P16.3: what is told of functions.
func TestFns(t *testing.T) {
	names(t, "f0()", "function f() { }")
	names(t, "f0() g1() h2()", "function f() { } function g() { } function h() { }")
	names(t, "h0() f1() g2()", "function h() { } function f() { } function g() { }")
	names(t, "a b | f2(x) g4(y z[])", "BEGIN { a } { b } function f(x) { } END { } function g(y, z) { delete z } END { }")
	names(t, "f1(x)", "BEGIN { } function f(x) { }")
	names(t, "", "BEGIN { } { } END { }")
	names(t, "", "")
	names(t, "f0(a b[] c)", "function f(a, b, c) { b[1] }")
	names(t, "f0(a[]) g1(a) h2(b a[])", "function f(a) { a[1] } function g(a) { a } function h(b, a) { a[b] }")
	names(t, "f3(a[]) g5(a)", "{ }\n{ }\n{ }\nfunction f(a) { delete a }\n{ }\nfunction g(a) { a }")
	// As many as may be.
	var text, want strings.Builder
	for i := range 1300 {
		fmt.Fprintf(&text, "function f%d(a, b) { a[b] }\n", i)
		fmt.Fprintf(&want, " f%d%d(a[] b)", i, i)
	}
	names(t, want.String()[1:], text.String())
}

// P16.3: with no functions, no names, no items.
func TestNothing(t *testing.T) {
	for _, p := range []api.Program{{}, {Items: []api.Item{}}, items(begin()), items(api.Item{Kind: api.IRule, HasBody: true}), items(api.Item{Kind: api.IRule, Exprs: []api.Expr{number(1)}}), items(begin(stmt(api.SPrint)))} {
		if got, fault := held(t, p); !sameNames(got, api.Names{}) || fault != (api.Fault{}) {
			t.Errorf("Resolve(%s) = %s, %+v", brief(p), say(got), fault)
		}
	}
}
