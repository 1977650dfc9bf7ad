package resolve

import (
	"fmt"
	"slices"
	"strings"
	"testing"

	"winnower/api"
)

// wrongItems are items that are not right, each for another reason.
func wrongItems() []api.Item {
	deep := variable("x")
	for range mostNest {
		deep = expr(api.XNot, "", deep)
	}
	wrong := []api.Item{
		{}, {Kind: 5, Line: 9}, {Kind: api.IRule, Line: 9}, {Kind: api.IBegin, Name: "f", Line: 9}, {Kind: api.IEnd, Params: []string{"a"}},
		{Kind: api.IRule, Exprs: of(3, number(1)), Line: 9}, {Kind: api.IRule, Exprs: []api.Expr{deep}, Line: 9}, {Kind: api.IRule, Exprs: []api.Expr{{}}},
		function("", nil), function("in", nil), function("f g", nil), function("length", nil), function("f", []string{""}), function("f", []string{"NR", "1"}), function("f", []string{"a", "print"}),
		function("f", mapped(of(mostParams+1, 0), func(int) string { return "a" })),
		begin(api.Stmt{}), begin(stmt(api.SExpr)), begin(stmt(api.SBreak, number(1))), begin(api.Stmt{Kind: api.SForIn, S: "x", Exprs: []api.Expr{number(1)}}), begin(api.Stmt{Kind: api.SForIn, Exprs: []api.Expr{variable("t")}}),
		begin(api.Stmt{Kind: api.SDelete}), begin(api.Stmt{Kind: api.SFor, Else: of(1, bare(number(1)))}), begin(bare(variable("1"))), begin(bare(variable(""))), begin(bare(expr(api.XIndex, "t"))),
		begin(bare(expr(api.XBuiltin, "f", number(1)))), begin(bare(expr(api.XBuiltin, "length", number(-1)))), begin(bare(call("length", number(1)))), begin(bare(expr(api.XPre, "++", number(1)))),
		begin(of(mostNodes+1, stmt(api.SBreak))...),
	}
	return wrong
}

// P16.1: what is no right tree is that, ahead of all else that is wrong with it.
func TestWrongTrees(t *testing.T) {
	others := []api.Item{begin(), begin(stmt(api.SBreak)), function("NR", []string{"a", "a"}), begin(bare(call("g"))), begin(bare(expr(api.XIndex, "NR", number(1)))), begin(bare(element("x")), bare(variable("x")))}
	for i, wrong := range wrongItems() {
		treeFaulty(t, api.ErrTree, 0, items(wrong))
		for _, other := range others {
			other.Line = 3
			treeFaulty(t, api.ErrTree, 0, items(other, wrong))
			treeFaulty(t, api.ErrTree, 0, items(wrong, other))
		}
		if t.Failed() {
			t.Fatal(i)
		}
	}
	treeFaulty(t, api.ErrTree, 0, items(of(mostNodes+1, api.Item{Kind: api.IRule, Exprs: []api.Expr{variable("f")}})...))
}

// P16.1: a function's name that was given already.
func TestTwiceFunctions(t *testing.T) {
	for _, name := range specials() {
		faulty(t, api.ErrTwice, 1, "function "+name+"() { }")
		faulty(t, api.ErrTwice, 2, "function f() { }\nfunction "+name+"(a) { a }")
		faulty(t, api.ErrTwice, 3, "{ a }\n\nfunction "+name+"() { }\nfunction "+name+"() { }")
		isRight(t, "function "+name+"S() { } function "+name[1:]+"_() { "+name+" }")
	}
	faulty(t, api.ErrTwice, 2, "function f() { }\nfunction f() { }")
	faulty(t, api.ErrTwice, 4, "function f() { }\n{ f() }\nfunction g() { }\nfunction f(a, b) { }\nfunction g() { }")
	faulty(t, api.ErrTwice, 3, "function f() { }\nfunction g() { }\nfunction g() { }\nfunction f() { }")
	faulty(t, api.ErrTwice, 3, "function f() { }\n\nfunction f(a,\nb) { } function g() { } function g() { }")
	isRight(t, "function f() { }\nfunction F() { } function ff() { } function f_() { }")
	for _, line := range []int{0, -1, 1 << 40, -1 << 63, 1<<63 - 1} {
		it := function("f", nil)
		it.Line = line
		other := function("f", nil)
		other.Line = 7
		treeFaulty(t, api.ErrTwice, line, items(other, it, other))
		it.Name = "FS"
		treeFaulty(t, api.ErrTwice, line, items(other, it, other))
		it.Name, it.Params = "g", []string{"a", "b", "a"}
		treeFaulty(t, api.ErrTwice, line, items(other, it, other))
	}
}

// P16.1: a parameter's name that was given already.
func TestTwiceParams(t *testing.T) {
	for _, name := range specials() {
		faulty(t, api.ErrTwice, 1, "function f("+name+") { }")
		faulty(t, api.ErrTwice, 1, "function f(a, "+name+", b) { }")
		faulty(t, api.ErrTwice, 2, "function f(a) { }\nfunction g(a, b, "+name+") { }\nfunction h(NR) { }")
		isRight(t, "function f("+name+"S, "+name[1:]+"_) { }")
	}
	faulty(t, api.ErrTwice, 1, "function f(a, a) { }")
	faulty(t, api.ErrTwice, 1, "function f(a, b, c, b) { }")
	faulty(t, api.ErrTwice, 2, "function f(a, b) { }\nfunction g(b, a, b) { }")
	faulty(t, api.ErrTwice, 3, "function f(a, b) { }\n{ a }\nfunction g(a,\nb,\na) { }\nfunction h(a, a) { }")
	isRight(t, "function f(a, b) { } function g(a, b) { } function h(b, a, A, aa) { }")
	// As many as there may be.
	var all []string
	for i := range mostParams {
		all = append(all, fmt.Sprint("p", i))
	}
	if _, fault := held(t, items(function("f", all))); fault != (api.Fault{}) {
		t.Errorf("%+v", fault)
	}
	for i := range all {
		for j := range i {
			other := slices.Clone(all)
			other[i] = all[j]
			treeFaulty(t, api.ErrTwice, 0, items(function("f", other)))
		}
		for _, name := range specials() {
			other := slices.Clone(all)
			other[i] = name
			treeFaulty(t, api.ErrTwice, 0, items(function("f", other)))
		}
	}
}

// P16.1: these are told item by item, be it a function's name or a parameter.
func TestTwiceInOrder(t *testing.T) {
	wrong := []string{"function NR() { }", "function x(a, b, a) { }", "function y(FS) { }", "function f() { }", "function ORS(a, a) { }", "function f(RS) { }"}
	for _, one := range wrong {
		for _, other := range wrong {
			faulty(t, api.ErrTwice, 3, "function f() { }\n{ a }\n"+one+"\n"+other)
			faulty(t, api.ErrTwice, 2, "function f() { }\n"+one+" BEGIN { }\n"+other)
		}
	}
}

// P16.1, P16.2: these are told ahead of all that P16.2 names, wherever that stands.
func TestTwiceFirst(t *testing.T) {
	for _, other := range []string{"function h(g) { }", "{ g = 1 }", "BEGIN { next }", "{ break }", "{ return }", "{ none() }", "{ g(1) }", "{ rand(1) }", "{ split(a, 1) }", "{ sub(a, b, c d) }", "{ NR[1] }", "{ x[1]; x }"} {
		text := other + " function g() { }\n"
		if _, fault := Resolve(parsed(t, text)); fault.Err == api.OK {
			t.Errorf("%s has no fault", text)
		}
		faulty(t, api.ErrTwice, 2, text+"function g() { }")
		faulty(t, api.ErrTwice, 3, text+"\nfunction f(a, a) { }")
		faulty(t, api.ErrTwice, 2, text+"function f(NF) { }\n{ none() }")
		faulty(t, api.ErrTwice, 4, text+"BEGIN { next }\n{ none() }\nfunction FNR(a) { }\n{ break }")
	}
}

// P16.2: a parameter that is a function's name, as its item is come to.
func TestParamsThatAreFunctions(t *testing.T) {
	faulty(t, api.ErrTwice, 1, "function f(f) { }")
	faulty(t, api.ErrTwice, 1, "function f(g) { }\nfunction g() { }")
	faulty(t, api.ErrTwice, 2, "function g() { }\nfunction f(g) { }")
	faulty(t, api.ErrTwice, 2, "\nfunction f(a, b, g, c) { } function g(a) { }")
	faulty(t, api.ErrTwice, 1, "function f(g) { return g }\nfunction g() { }")
	faulty(t, api.ErrTwice, 1, "function f(g) { next\ng() + g[1] }\nfunction g() { }")
	faulty(t, api.ErrTwice, 2, "function f(a) { }\nfunction g(f) { }\nfunction h(g) { }")
	faulty(t, api.ErrPlace, 1, "BEGIN { next }\nfunction f(f) { }")
	faulty(t, api.ErrPlace, 1, "function g() { next }\nfunction f(f) { }")
	faulty(t, api.ErrTwice, 1, "function f(f) { }\nBEGIN { next }")
	faulty(t, api.ErrTwice, 1, "function f(f) { }\n{ none() }\nfunction g(f) { break }")
	faulty(t, api.ErrCall, 1, "{ none() }\nfunction f(a, f) { }")
	isRight(t, "function f(g) { g = 1 } { x = 1 } function x1(x) { }")
	for i := range mostParams {
		params := mapped(of(mostParams, ""), func(string) string { return "" })
		for k := range params {
			params[k] = "p" + strings.Repeat("_", k)
		}
		params[i] = "g"
		it := function("f", params)
		it.Line = 5
		treeFaulty(t, api.ErrTwice, 5, items(begin(), it, function("g", nil)))
		treeFaulty(t, api.ErrTwice, 5, items(function("g", nil), it))
	}
}
