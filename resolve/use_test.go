package resolve

import (
	"strings"
	"testing"

	"winnower/api"
)

// namePlaces are all places at which a name may stand by which it is used: as an
// array, as a value, or as nothing.
func namePlaces() (arrays, values, nothing []place) {
	for _, p := range exprPlaces() {
		for _, e := range []string{"@[1]", "@[1, v_]", "1 in @", "(1, v_) in @", "split(1, @)", "split(1, @, 3)"} {
			arrays = append(arrays, place{p.line, p.with("(" + e + ")")})
		}
		for _, e := range []string{"@", "@ = 1", "@ -= 1", "++@", "@--", "getline @", "getline @ < 1", "1 | getline @", "sub(1, 2, @)", "split(@, t_)", "1 @", "$@", "t_[@]", "g_($@)"} {
			values = append(values, place{p.line, p.with("(" + e + ")")})
		}
		for _, e := range []string{"length(@)", "i_(@)", "i_(1, @)"} {
			nothing = append(nothing, place{p.line, p.with("(" + e + ")")})
		}
	}
	for _, p := range stmtPlaces() {
		for _, s := range []string{"delete @", "delete @[1]", "delete @[1, v_]", "for (v_ in @) { }", "for (v_ in @) v_"} {
			arrays = append(arrays, place{p.line, p.with(s)})
		}
		for _, s := range []string{"for (@ in t_) { }", "for (@ in t_) v_"} {
			values = append(values, place{p.line, p.with(s)})
		}
	}
	return arrays, values, nothing
}

// P16.2: a global name that is a function's, of one ahead, and of one behind; the
// function itself has its name as a global one, too.
func TestNamesThatAreFunctions(t *testing.T) {
	arrays, values, nothing := namePlaces()
	for _, all := range [][]place{arrays, values, nothing} {
		for _, p := range all {
			faulty(t, api.ErrUse, p.line, p.with("h_")+"\nfunction h_(a) { }")
			faulty(t, api.ErrUse, p.line+1, "function h_() { }\n"+p.with("h_"))
		}
	}
	faulty(t, api.ErrUse, 2, "function f() {\nf }")
	faulty(t, api.ErrUse, 2, "function f(a) {\nreturn f(f) }")
	faulty(t, api.ErrUse, 1, "function f(a) { f[1] }")
	isRight(t, "function f() { return f() } { F = f() } { ff = 1 }")
}

// P16.2: a special that is used as an array; as a value, as length's argument and
// as one that is handed in it has no fault.
func TestSpecialsAsArrays(t *testing.T) {
	arrays, values, nothing := namePlaces()
	for i, p := range arrays {
		faulty(t, api.ErrUse, p.line, p.with(specials()[i%len(specials())]))
	}
	for i, p := range append(values, nothing...) {
		isRight(t, p.with(specials()[i%len(specials())]))
	}
	for _, name := range specials() {
		faulty(t, api.ErrUse, 2, "{\n"+name+"[1] }")
		faulty(t, api.ErrUse, 2, "{\nx = 1 in "+name+" }")
		faulty(t, api.ErrUse, 2, "{\nfor (x in "+name+")\nx }")
		faulty(t, api.ErrUse, 2, "{\ndelete "+name+" }")
		faulty(t, api.ErrUse, 2, "{\nsplit(1,\n"+name+") }")
		names(t, "x t[]", "{ "+name+"; length("+name+"); "+name+" = x; for ("+name+" in t) { } }")
		names(t, name+"S[]", "{ "+name+"S[1] }")
	}
	faulty(t, api.ErrUse, 3, "function f(a) { a }\n{ f(NR) }\nfunction g(b) { NR[b] }")
}

// P16.2: a name of a parameter hides one that all see.
func TestParamsHide(t *testing.T) {
	// A parameter is what it is used as, whatever the global one of its name is.
	arrays, values, nothing := namePlaces()
	for _, all := range [][]place{arrays, values, nothing} {
		for _, p := range all {
			if strings.HasPrefix(p.text, "function f_(p_)") && !strings.Contains(p.text, "f_(v_)") {
				isRight(t, p.with("p_"))
				isRight(t, "{ p_ }\n"+p.with("p_"))
				isRight(t, p.with("p_")+"\n{ p_[1] }")
			}
		}
	}
	names(t, "x | f1(x[])", "{ x = 1 } function f(x) { x[1] }")
	names(t, "x[] | f0(x)", "function f(x) { x = 1 } { x[1] }")
	names(t, "x[] | f0(x) g1(y)", "function f(x) { x = 1 } function g(y) { x[1] }")
	names(t, "x | f0(x[]) g1(x) h2(x[])", "function f(x) { x[1] } function g(x) { x } function h(x) { delete x } { x }")
	names(t, "f0(x)", "function f(x) { x } BEGIN { }")
	names(t, "f0(x[])", "function f(x) { for (x[1] ; 1 in x ; ) { delete x } }")
	names(t, "k t[] | f0(k t[])", "function f(k, t) { for (k in t) { } } { for (k in t) { } }")
	names(t, "k t[] | f2(t[] k)", "BEGIN { } { for (k in t) { } } function f(t, k) { for (k in t) { } }")
	names(t, "t k[] | f1(k t[])", "{ t = k[1] } function f(k, t) { for (k in t) { split(k, t) } }")
	// In a call within a function the parameter is handed on, not the global one.
	names(t, "x | f1(x[]) g2(y[])", "{ x = 1 } function f(x) { g(x) } function g(y) { y[1] }")
	names(t, "x[] | f1(x) g2(y)", "{ x[1] } function f(x) { g(x) } function g(y) { y = 1 }")
}
