package show

import (
	"strconv"
	"strings"
	"testing"

	"winnower/api"
)

func function(name string, params []string, body ...api.Stmt) api.Item {
	return api.Item{Kind: api.IFunc, Name: name, Params: params, Body: body}
}

type itemCase struct {
	want string
	it   api.Item
}

func itemCases() []itemCase {
	a, b, s := variable("a"), variable("b"), bare(variable("s"))
	cases := []itemCase{
		{"BEGIN {\n}\n", api.Item{Kind: api.IBegin}},
		{"BEGIN {\n\ts\n}\n", api.Item{Kind: api.IBegin, Body: list(s)}},
		{"BEGIN {\n\ts\n\ts\n\tnext\n}\n", api.Item{Kind: api.IBegin, Body: list(s, s, stmt(api.SNext))}},
		{"END {\n}\n", api.Item{Kind: api.IEnd}},
		{"END {\n\ts\n\tif (a) {\n\t\ts\n\t}\n}\n", api.Item{Kind: api.IEnd, Body: list(s, has(stmt(api.SIf, a), s))}},
		{"function f() {\n}\n", function("f", nil)},
		{"function f(a) {\n\ts\n}\n", function("f", []string{"a"}, s)},
		{"function f(a, b) {\n\treturn a\n}\n", function("f", []string{"a", "b"}, stmt(api.SReturn, a))},
		{"function f(a, a, f) {\n}\n", function("f", []string{"a", "a", "f"})},
		{"{\n}\n", braced(rule())},
		{"{\n\ts\n}\n", braced(rule(), s)},
		{"a\n", rule(a)},
		{"a {\n}\n", braced(rule(a))},
		{"a {\n\ts\n\t{\n\t}\n}\n", braced(rule(a), s, block())},
		{"a, b\n", rule(a, b)},
		{"a, b {\n}\n", braced(rule(a, b))},
		{"a, b {\n\ts\n}\n", braced(rule(a, b), s)},
		{"a b, ! /x/\n", rule(expr(api.XCat, "", a, b), expr(api.XNot, "", pattern("x")))},
		{"/x/, /=/ {\n}\n", braced(rule(pattern("x"), pattern("=")))},
		{"a = b, a > b {\n\ts\n}\n", braced(rule(expr(api.XAssign, "=", a, b), expr(api.XCmp, ">", a, b)), s)},
		{"(a, b) in t, a in t {\n}\n", braced(rule(expr(api.XIn, "t", a, b), expr(api.XIn, "t", a)))},
		{"getline, getline a\n", rule(getline(1), getline(9, a))},
		{"a | getline, getline < b {\n}\n", braced(rule(getline(3, a), getline(2, b)))},
		{"\"\" {\n}\n", braced(rule(quote("")))},
	}
	for n := range mostParams + 1 {
		var params []string
		for i := range n {
			params = append(params, "p"+strconv.Itoa(i))
		}
		cases = append(cases, itemCase{"function f" + strconv.Itoa(n) + "(" + strings.Join(params, ", ") + ") {\n\ts\n}\n", function("f"+strconv.Itoa(n), params, s)})
	}
	return cases
}

// P15.1: each item by itself, and behind each other one.
func TestEachItem(t *testing.T) {
	var all itemCase
	var some []api.Item
	for _, c := range itemCases() {
		writes(t, c.want, items(c.it))
		writes(t, c.want+c.want+c.want, items(c.it, c.it, c.it))
		for _, d := range itemCases() {
			writes(t, c.want+d.want, items(c.it, d.it))
		}
		all.want += c.want
		some = append(some, c.it)
	}
	writes(t, all.want, items(some...))
	writes(t, "", items())
	// As many as one likes: without parts they have no size.
	writes(t, strings.Repeat("END {\n}\n", 5000), items(of(5000, api.Item{Kind: api.IEnd})...))
	writes(t, strings.Repeat("a, b\n", 2000), items(of(2000, rule(names("a", "b")...))...))
}

// P15.1: lines of a tree are none of its text.
func TestLines(t *testing.T) {
	for _, line := range []int{-1, 0, 1, 65537} {
		for _, c := range itemCases() {
			c.it.Line = line
			for i := range c.it.Body {
				c.it.Body[i].Line = line
			}
			writes(t, c.want, items(c.it))
		}
	}
}
