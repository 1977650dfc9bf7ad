package resolve

import (
	"fmt"
	"slices"
	"strings"
	"testing"

	"winnower/api"
)

// P16.2: a call of no function, wherever it stands.
func TestCallsOfNoFunction(t *testing.T) {
	for _, e := range []string{"none()", "none(1, 2)", "none(none(1))", "v_(1)", "t_(1)", "NR()"} {
		faultyEverywhere(t, api.ErrCall, e)
	}
	faulty(t, api.ErrCall, 1, "function f(a) { a(1) }")
	faulty(t, api.ErrCall, 2, "function f() { }\n{ F() }")
	faulty(t, api.ErrCall, 2, "function f() { }\n{ ff() + f() }")
	for _, name := range specials() {
		faulty(t, api.ErrCall, 1, "{ "+name+"(1) }")
	}
}

// P16.2: calls of functions ahead, behind, and of the same one.
func TestCallsOfFunctions(t *testing.T) {
	isRight(t, "function f() { g() } function g() { f() }")
	isRight(t, "{ f(1) } function f(a) { f(a) }")
	isRight(t, "function f(a) { return f(f(a)) } END { f() }")
	rightEverywhere(t, "g_()")
	for _, p := range exprPlaces() {
		isRight(t, "function h() { } "+p.with("(h())"))
	}
}

// P16.2: as many arguments as Params may be left out, none may be more.
func TestCounts(t *testing.T) {
	for params := range 6 {
		list := strings.Join([]string{"p1", "p2", "p3", "p4", "p5"}[:params], ", ")
		for args := range 8 {
			e := "h(" + strings.TrimSuffix(strings.Repeat("1, ", args), ", ") + ")"
			text := "{ 1 }\n{\n" + e + " }\nfunction h(" + list + ") { }"
			if args <= params {
				isRight(t, text)
				isRight(t, "function h("+list+") { "+e+" }")
				continue
			}
			faulty(t, api.ErrCount, 3, text)
			faulty(t, api.ErrCount, 1, "function h("+list+") { return 1 + "+e+" }")
			faulty(t, api.ErrCount, 2, "function h("+list+") { }\nEND { print "+e+" }")
		}
	}
	faultyEverywhere(t, api.ErrCount, "g_(1, 2, 3)")
	faultyEverywhere(t, api.ErrCount, "g_(v_, v_, v_, v_)")
	var params []string
	for i := range mostParams {
		params = append(params, fmt.Sprint("p", i))
	}
	f := function("f", params)
	for args := range mostParams + 5 {
		s := api.Stmt{Kind: api.SExpr, Exprs: []api.Expr{call("f", of(args, number(1))...)}, Line: 9}
		if args > mostParams {
			treeFaulty(t, api.ErrCount, 9, items(f, begin(s)))
		} else if _, fault := held(t, items(begin(s), f)); fault != (api.Fault{}) {
			t.Errorf("%d arguments: %+v", args, fault)
		}
	}
	treeFaulty(t, api.ErrCount, 0, items(f, begin(bare(call("f", of(mostNodes-2, number(1))...)))))
}

// P16.2: each builtin with each number of arguments.
func TestBuiltinCounts(t *testing.T) {
	for _, row := range []struct {
		names       string
		least, most int
	}{
		{"rand", 0, 0}, {"length srand", 0, 1}, {"tolower toupper int close system", 1, 1}, {"index match", 2, 2}, {"substr split sub gsub", 2, 3}, {"sprintf", 1, mostNodes},
	} {
		for _, name := range strings.Fields(row.names) {
			for args := range 9 {
				e := name + "(" + strings.TrimSuffix(strings.Repeat("x, ", args), ", ") + ")"
				if args < row.least || args > row.most {
					faulty(t, api.ErrCount, 1, e)
					faulty(t, api.ErrCount, 3, "BEGIN { }\n{\nprint 1, "+e+" }")
				} else {
					// x is an array as split's second argument.
					if name == "split" {
						e = strings.Replace(e, "(x, x", "(x, y", 1)
					}
					isRight(t, e)
					isRight(t, "BEGIN { }\n{\nprint 1, "+e+" }")
				}
			}
		}
	}
	isRight(t, "{ length }")
	for _, e := range []string{"rand(1)", "length(1, 2)", "srand(1, 2)", "tolower()", "toupper(1, 2)", "int()", "close(1, 2)", "system()", "index(1)", "index(1, 2, 3)", "match(1)", "match(1, 2, 3)", "substr(1)", "substr(1, 2, 3, 4)", "split(1)", "split(1, w_, 3, 4)", "sub(1)", "sub(1, 2, v_, 4)", "gsub()", "gsub(1, 2, $1, 4)", "sprintf()"} {
		faultyEverywhere(t, api.ErrCount, e)
	}
	if _, fault := held(t, items(begin(bare(expr(api.XBuiltin, "sprintf", of(mostNodes-2, number(1))...))))); fault != (api.Fault{}) {
		t.Errorf("sprintf of many: %+v", fault)
	}
	for name, count := range builtinCounts() {
		if count[1] < 10 {
			treeFaulty(t, api.ErrCount, 0, items(begin(bare(expr(api.XBuiltin, name, of(mostNodes-2, variable("x"))...)))))
		}
	}
}

// noLvalues are expressions that are none, of all kinds, without a fault of their
// own.
func noLvalues() []string {
	return []string{"1", `"s"`, "/r/", "w_ = 1", "w_ += 2", "w_ ? w_ : w_", "w_ || 1", "w_ && 1", "! w_", "- w_", "+ w_", "w_ in u_", "(1, 2) in u_", "w_ ~ 1", "w_ !~ 1", "(w_ < 1)", "w_ == 1", "w_ w_", "w_ + 1", "w_ ^ 2", "++w_", "--$1", "w_++", "u_[1]--", "length", "length(w_)", "substr(1, 2)", "split(1, u_)", "rand()", "getline", "getline w_", "getline < w_", "getline w_ < 1", "(1 | getline)", "(1 | getline w_)"}
}

// P16.2: split's second argument is an XVar.
func TestSplitsSecond(t *testing.T) {
	names(t, "s u[]", "{ split(s, u) }")
	names(t, "s u[] x", "{ split(s, u, x) }")
	names(t, "u[] | f0(a[])", "function f(a) { split(1, a) } { f(u) }")
	names(t, "s[] u", "{ split(s[1], s, u) }")
	for _, e := range append(noLvalues(), "u_[1]", "$1", "$w_", "u_[1, 2]", "$NF") {
		faulty(t, api.ErrUse, 2, "{\nsplit(1, "+e+") }")
		faulty(t, api.ErrUse, 3, "{ x = 1\n\nx = split(1, "+e+", 3) }")
		faulty(t, api.ErrUse, 1, "split(1, "+e+")")
	}
	faultyEverywhere(t, api.ErrUse, "split(1, 2)")
	faultyEverywhere(t, api.ErrUse, "split(1, g_(), v_)")
	faultyEverywhere(t, api.ErrUse, "split(1, w_[1])")
	rightEverywhere(t, "split(v_, w_)")
	rightEverywhere(t, "split(v_, w_, v_)")
}

// P16.2: the third argument of sub and gsub is an lvalue.
func TestSubsThird(t *testing.T) {
	for _, name := range []string{"sub", "gsub"} {
		names(t, "x", "{ "+name+"(1, 2, x) }")
		names(t, "t[]", "{ "+name+"(1, 2, t[3]) }")
		names(t, "t[] x y[]", "{ "+name+"(1, 2, t[x, y[1]]) }")
		names(t, "x", "{ "+name+"(1, 2, $x) }")
		names(t, "", "{ "+name+"(1, 2, NF) }")
		names(t, "x y z", "{ "+name+"(x, y, z) }")
		names(t, "x y", "{ "+name+"(x, y) }")
		names(t, "x | f0(a)", "function f(a) { "+name+"(1, 2, a) } { f(x) }")
		for _, e := range noLvalues() {
			faulty(t, api.ErrUse, 2, "{\n"+name+"(1, 2, "+e+") }")
			faulty(t, api.ErrUse, 1, "1 + "+name+"(1, 2, "+e+")")
			// Ahead of it all may stand.
			isRight(t, "{ "+name+"(("+e+"), ("+e+")) }")
		}
		faultyEverywhere(t, api.ErrUse, name+"(1, 2, 3)")
		faultyEverywhere(t, api.ErrUse, name+"(1, 2, g_())")
		rightEverywhere(t, name+"(1, 2, v_)")
	}
	// Of other builtins all may stand everywhere.
	for _, e := range slices.Concat(noLvalues(), []string{"u_[1]", "$1", "w_"}) {
		isRight(t, "{ substr(("+e+"), ("+e+"), ("+e+")); sprintf("+strings.Repeat("("+e+"), ", 4)+"1); split(("+e+"), x_, ("+e+")); index(("+e+"), ("+e+")); match(("+e+"), ("+e+")) }")
		isRight(t, "{ length(("+e+") 1); tolower(("+e+")); toupper(("+e+")); int(("+e+")); close(("+e+")); system(("+e+")); srand(("+e+")) }")
	}
}
