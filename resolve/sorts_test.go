package resolve

import (
	"fmt"
	"strings"
	"testing"

	"winnower/api"
)

// bothSorts says that a source uses a name as an array and as a value.
func bothSorts(t *testing.T, text string) {
	t.Helper()
	faulty(t, api.ErrUse, 0, text)
}

// P16.3: what a name is used as where it stands.
func TestSortsByThemselves(t *testing.T) {
	arrays, values, nothing := namePlaces()
	for i, p := range arrays {
		isRight(t, p.with("x_")+"\n{ x_[1] }")
		if bothSorts(t, p.with("x_")+"\n{ x_ }"); i%5 == 0 {
			bothSorts(t, "{ x_ }\n"+p.with("x_"))
			bothSorts(t, "{ for (x_ in y_) ; }\n"+p.with("x_"))
		}
	}
	for i, p := range values {
		isRight(t, p.with("x_")+"\n{ x_ }")
		if bothSorts(t, p.with("x_")+"\n{ x_[1] }"); i%5 == 0 {
			bothSorts(t, "{ 1 in x_ }\n"+p.with("x_"))
			bothSorts(t, "{ delete x_ }\n"+p.with("x_"))
		}
	}
	for _, p := range nothing {
		isRight(t, p.with("x_")+"\n{ x_ }")
		isRight(t, p.with("x_")+"\n{ x_[1] }")
		bothSorts(t, p.with("x_")+"\n{ x_[1] }\n{ x_ }")
	}
}

// P16.3: length's argument, of a name that is used otherwise, or not at all.
func TestLengthsArgument(t *testing.T) {
	names(t, "z", "{ length(z) }")
	names(t, "n z", "BEGIN { n = length(z) }")
	names(t, "z[]", "{ length(z); z[1] }")
	names(t, "z[]", "{ delete z; length(z) }")
	names(t, "z", "{ length(z); z }")
	names(t, "z", "{ length(z 1) }")
	names(t, "z t[]", "{ length(z + 1); length(t[z]) }")
	names(t, "f0(a)", "function f(a) { length(a) }")
	names(t, "f0(a[])", "function f(a) { length(a); a[1] }")
	names(t, "x[] | f0(a[])", "function f(a) { length(a) } { f(x); x[1] }")
	names(t, "x | f0(a)", "function f(a) { length(a) } { f(x); x }")
	names(t, "x | f0(a)", "function f(a) { length(a) } { f(x); length(x) }")
	names(t, "", "{ length(NR); length }")
	bothSorts(t, "{ length(z 1); z[1] }")
	bothSorts(t, "{ length($z); z[1] }")
	bothSorts(t, "{ length(z); z; z[1] }")
}

// P16.3: names tied to parameters, over one, two and many functions.
func TestTies(t *testing.T) {
	names(t, "x[] | f0(t[])", "function f(t) { t[1] = 2 } BEGIN { f(x) }")
	names(t, "x[] | f1(t[])", "BEGIN { f(x); x[1] } function f(t) { }")
	names(t, "x | f1(t)", "BEGIN { f(x) } function f(t) { t }")
	names(t, "x | f1(t)", "BEGIN { f(x); x } function f(t) { }")
	names(t, "x | f0(t)", "function f(t) { } BEGIN { f(x) }")
	names(t, "x[] | f0(a[]) g1(b[])", "function f(a) { g(a) } function g(b) { b[1] } { f(x) }")
	names(t, "x[] | f0(a[]) g1(b[])", "function f(a) { g(a) } function g(b) { } { f(x); x[1] }")
	names(t, "x | f0(a) g1(b)", "function f(a) { g(a) } function g(b) { b = 1 } { f(x) }")
	names(t, "x y[] | f0(a b[])", "function f(a, b) { b[a] } { f(x, y) }")
	names(t, "x[] y | f0(a[] b)", "function f(a, b) { a[b] } { f(x, y) }")
	names(t, "x[] | f0(a[] b[])", "function f(a, b) { a[1] } { f(x, x) }")
	names(t, "x[] y[] | f0(a[]) g1(b[])", "function f(a) { } function g(b) { } { f(x); g(x); f(y); y[1] }")
	names(t, "x[] y[] z[] | f0(a[])", "function f(a) { } { f(x); f(y); f(z); delete y }")
	// A name by another one's parameters, and back.
	names(t, "x[] y[] | f0(a[] b[])", "function f(a, b) { } { f(x, y); f(y, x); split(1, y) }")
	names(t, "x y[] | f0(a b[])", "function f(a, b) { } { f(x, y); x; y[1] }")
	bothSorts(t, "function f(a, b) { } { f(x, y); f(y, x); x; y[1] }")
	bothSorts(t, "function f(a) { return g(a) } function g(b) { b[1] } BEGIN { f(y); y = 1 }")
	bothSorts(t, "function f(t) { t[1] } { f(x); x }")
	bothSorts(t, "function f(t) { t } { f(x); x[1] }")
	bothSorts(t, "function f(t) { t; t[1] }")
	bothSorts(t, "function f(t) { } { f(x); f(y); x; y[1] }")
	bothSorts(t, "function f(a) { g(a) } function g(b) { b } { f(x); x[1] }")
	bothSorts(t, "function f(a, b) { b; a[1] } { f(x, x) }")
	// Not tied: an element, and what is told by a call.
	names(t, "x[] | f0(a)", "function f(a) { } { f(x[1]) }")
	names(t, "x[] | f0(a) g2(b[])", "function f(a) { } { f(g(x)) } function g(b) { b[1] }")
	names(t, "x | f0(a) g2(b)", "function f(a) { return a } { f(g(x)) } function g(b) { return b }")
}

// P16.3: rings of functions.
func TestRingsOfTies(t *testing.T) {
	names(t, "f0(a)", "function f(a) { f(a) }")
	names(t, "f0(a[])", "function f(a) { f(a); a[1] }")
	names(t, "f0(a[] b[])", "function f(a, b) { f(b, a); b[1] }")
	names(t, "x[] | f0(a[]) g1(b[]) h2(c[])", "function f(a) { g(a) } function g(b) { h(b) } function h(c) { f(c) } { f(x); x[1] }")
	names(t, "f0(a[]) g1(b[])", "function f(a) { g(a) } function g(b) { f(b); 1 in b }")
	names(t, "f0(a b c) g1(d)", "function f(a, b, c) { f(b, c, a); g(c) } function g(d) { d++ }")
	bothSorts(t, "function f(a, b) { f(b, a); b[1]; a }")
	bothSorts(t, "function f(a, b, c) { f(b, c, a) } function g(d) { f(d); f(1, d); d[1] }")
	bothSorts(t, "function f(a) { g(a); a } function g(b) { f(b); 1 in b }")
	for _, n := range []int{1, 2, 3, 10, 100, 600} {
		var ring strings.Builder
		for i := range n {
			fmt.Fprintf(&ring, "function f%d(a, b) { f%d(b, a) }\n", i, (i+1)%n)
		}
		text := ring.String()
		// Round an odd ring both parameters are of one sort.
		p := parsed(t, text+"{ f0(x, y); x[1] }")
		got, fault := held(t, p)
		if fault.Err != api.OK || !got.Globals[0].Array || got.Globals[1].Array != (n%2 == 1) {
			t.Errorf("a ring of %d: %s, %+v", n, brief(say(got)), fault)
		}
		for i, fn := range got.Fns {
			if fn.Params[i%2].Array != true || fn.Params[1-i%2].Array != (n%2 == 1) {
				t.Errorf("a ring of %d: %+v", n, fn)
			}
		}
		if text += "{ f0(x, y); x[1]; y }"; n%2 == 1 {
			bothSorts(t, text)
		} else {
			isRight(t, text)
		}
	}
}

// P16.3: rows of functions, as long as a program may have them, from either end.
func TestLongTies(t *testing.T) {
	row := func(n int, last, behind string) string {
		var text strings.Builder
		for i := range n {
			fmt.Fprintf(&text, "function f%d(a) { f%d(a) }\n", i, i+1)
		}
		fmt.Fprintf(&text, "function f%d(a) { %s }\n{ f0(x)\n%s }", n, last, behind)
		return text.String()
	}
	for _, n := range []int{1, 2, 5, 50, 1300} {
		for _, ends := range [][2]string{{"a[1]", ""}, {"", "x[1]"}, {"delete a", "length(x)"}, {"1 in a", "split(1, x)"}} {
			p := parsed(t, row(n, ends[0], ends[1]))
			got, fault := held(t, p)
			if fault.Err != api.OK || len(got.Fns) != n+1 {
				t.Fatalf("a row of %d: %+v", n, fault)
			}
			for _, fn := range got.Fns {
				if !fn.Params[0].Array {
					t.Fatalf("a row of %d: %+v is no array", n, fn)
				}
			}
			if !got.Globals[0].Array {
				t.Errorf("a row of %d: x is no array", n)
			}
		}
		isRight(t, row(n, "a", "x"))
		bothSorts(t, row(n, "a[1]", "x"))
		bothSorts(t, row(n, "a", "x[1]"))
		bothSorts(t, row(n, "a[1]", "f0(1)"))
		bothSorts(t, row(n, "", fmt.Sprintf("f%d(1); x[1]", n/2)))
		bothSorts(t, row(n, "a[1]", fmt.Sprintf("f%d(NR)", n)))
		bothSorts(t, row(n, fmt.Sprintf("f%d(y)", n/2), "y; x[1]"))
	}
}

// P16.3: an argument that is no XVar makes its parameter a value.
func TestArgumentsThatAreValues(t *testing.T) {
	for _, e := range append(noLvalues(), "w_[1]", "$1", "$w_") {
		e = "(" + e + ")"
		names := func(want, text string) {
			t.Helper()
			got, fault := held(t, parsed(t, text))
			if fault.Err != api.OK || !strings.HasSuffix(say(got), want) {
				t.Errorf("%s has %s, %+v; want %s", text, say(got), fault, want)
			}
		}
		names("f0(a)", "function f(a) { } { f("+e+") }")
		names("f0(a)", "function f(a) { a = 1 } { f("+e+") }")
		names("f0(a)", "function f(a) { length(a) } { f("+e+") }")
		names("f0(a b[])", "function f(a, b) { b[1] } { f("+e+") }")
		names("f0(a b[]) g2(c)", "function f(a, b) { b[1] } { f("+e+", x) } function g(c) { f(c) }")
		bothSorts(t, "function f(a) { a[1] } { f("+e+") }")
		bothSorts(t, "{ f("+e+") } function f(a) { delete a }")
		bothSorts(t, "function f(a, b) { b[1] } { f(x, "+e+") }")
		bothSorts(t, "function f(a) { } { f("+e+"); f(x); x[1] }")
		bothSorts(t, "function f(a) { g(a) } function g(b) { b[1] } { f("+e+") }")
		bothSorts(t, "function f(a) { g("+e+"); } function g(b) { b[1] } ")
	}
	// Fewer arguments than Params: of the others nothing is said.
	names(t, "f0(a[])", "function f(a) { a[1] } { f() }")
	names(t, "x[] | f0(a[] b[] c)", "function f(a, b, c) { a[1]; b[1]; c } { f(); f(x); f(x, x) }")
	names(t, "x | f0(a b[] c[])", "function f(a, b, c) { b[c[1]] } { f(1); f(x) }")
}

// P16.3: a special that is handed in is a value.
func TestSpecialsThatAreHandedIn(t *testing.T) {
	for _, name := range specials() {
		names(t, "f0(a)", "function f(a) { } { f("+name+") }")
		names(t, "x | f0(a)", "function f(a) { } { f("+name+"); f(x) }")
		names(t, "f0(a b[])", "function f(a, b) { b[1] } { f("+name+") }")
		bothSorts(t, "function f(a) { a[1] } { f("+name+") }")
		bothSorts(t, "{ f(1, "+name+") } function f(a, b) { b[1] }")
		bothSorts(t, "function f(a) { g(a) } function g(b) { b[1] } { f("+name+") }")
		bothSorts(t, "function f(a) { } { f("+name+"); f(x); x[1] }")
		bothSorts(t, "function f(a) { length("+name+"); length(a); delete a } { f("+name+") }")
	}
	// Two that are handed one special.
	names(t, "x | f0(a) g1(b)", "function f(a) { } function g(b) { } { f(NR); g(NR); g(x) }")
	bothSorts(t, "function f(a) { } function g(b) { b[1] } { f(NR); g(NF) }")
	bothSorts(t, "function f(a) { } function g(b) { b[1] } { f(NR); f(x); g(x) }")
}

// P16.3: all faults of P16.2 are ahead of these.
func TestSortsAreLast(t *testing.T) {
	for _, both := range []string{"{ x; x[1] }", "function f(a) { a[1] } { f(1) }", "function f(a) { a[1] } { f(NR) }", "function f(a) { a; a[1] }"} {
		bothSorts(t, both)
		bothSorts(t, both+both[strings.LastIndex(both, "{"):])
		faulty(t, api.ErrPlace, 2, both+"\n{ break }")
		faulty(t, api.ErrCall, 2, both+"\n{ none(x) }")
		faulty(t, api.ErrCount, 3, both+"\n\n{ rand(x) }")
		faulty(t, api.ErrUse, 2, both+"\n{ NR[1] }")
		faulty(t, api.ErrTwice, 2, both+"\nfunction g(a, a) { }")
		faulty(t, api.ErrTwice, 2, both+"\nfunction g(g) { }")
	}
}
