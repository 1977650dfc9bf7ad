package nodes

import (
	"math"
	"slices"
	"strconv"
	"testing"

	"winnower/api"
)

// rightItems are one or more of each kind.
func rightItems() []api.Item {
	one, body := []api.Expr{number(1)}, []api.Stmt{exprStmt(number(1))}
	return []api.Item{
		{Kind: api.IBegin}, {Kind: api.IBegin, Body: body}, {Kind: api.IEnd}, {Kind: api.IEnd, Body: body},
		{Kind: api.IRule, Exprs: one}, {Kind: api.IRule, Exprs: of(2, one[0])}, {Kind: api.IRule, HasBody: true}, {Kind: api.IRule, HasBody: true, Body: body},
		{Kind: api.IRule, Exprs: one, HasBody: true, Body: body}, {Kind: api.IRule, Exprs: of(2, one[0]), HasBody: true},
		{Kind: api.IFunc, Name: "f"}, {Kind: api.IFunc, Name: "f", Params: []string{"a"}, Body: body}, {Kind: api.IFunc, Name: "f", Params: []string{"a", "b"}},
	}
}

// mayBe says what the chapter does of an item with so many of each.
func mayBe(kind api.ItemKind, named, hasBody bool, params, exprs, body int) bool {
	switch kind {
	case api.IBegin, api.IEnd:
		return !named && !hasBody && params == 0 && exprs == 0
	case api.IRule:
		return !named && params == 0 && exprs <= 2 && (hasBody || exprs >= 1 && body == 0)
	case api.IFunc:
		return named && !hasBody && exprs == 0 && params <= mostParams
	}
	return false
}

// P13.1: each kind, with and without each of what an item may have.
func TestEachItem(t *testing.T) {
	plain := exprStmt(variable("s"))
	for kind := range 256 {
		for _, hasBody := range []bool{false, true} {
			for _, name := range []string{"", "f", "in", " f"} {
				for _, params := range []int{0, 1, 19, 20, 21} {
					for exprs := range 5 {
						for body := range 3 {
							it := api.Item{Kind: api.ItemKind(kind), Name: name, Params: of(params, "p"), Exprs: values(exprs), HasBody: hasBody, Body: of(body, plain)}
							may := (name == "" || name == "f") && mayBe(it.Kind, name == "f", hasBody, params, exprs, body)
							if got := Right(items(it)); got != may {
								t.Errorf("Right(%s) = %v", brief(it), got)
							}
						}
					}
				}
			}
		}
	}
}

// P13.1: a rule has HasBody and Body, or one of Exprs at least, and two at most.
func TestRules(t *testing.T) {
	body := []api.Stmt{exprStmt(number(1))}
	for exprs := range 4 {
		rule := api.Item{Kind: api.IRule, Exprs: values(exprs)}
		programIs(t, items(rule), exprs == 1 || exprs == 2)
		rule.Body = body
		programIs(t, items(rule), false)
		rule.HasBody = true
		programIs(t, items(rule), exprs <= 2)
		rule.Body = nil
		programIs(t, items(rule), exprs <= 2)
	}
	programIs(t, items(api.Item{Kind: api.IRule}), false)
}

// P13.1: a function's Params, and its names.
func TestFunctions(t *testing.T) {
	longGood, longBad := longNames()
	fn := func(name string, params ...string) api.Program {
		return items(api.Item{Kind: api.IFunc, Name: name, Params: params, Body: []api.Stmt{exprStmt(number(1))}})
	}
	for _, name := range append(goodNames(), longGood...) {
		programIs(t, fn(name), true)
		programIs(t, fn(name, name), true)
		programIs(t, fn("f", name, "b", name), true)
	}
	for _, name := range append(badNames(), longBad...) {
		programIs(t, fn(name), false)
		programIs(t, fn("f", name), false)
		programIs(t, fn("f", name, "b", "c"), false)
		programIs(t, fn("f", "a", name, "c"), false)
		programIs(t, fn("f", "a", "b", name), false)
	}
	for _, word := range append(builtinWords(), otherWords()...) {
		programIs(t, fn(word+"_"), true)
		programIs(t, fn("f", word+"_"), true)
	}
	var names []string
	for i := range 30 {
		programIs(t, fn("f", names...), i <= mostParams)
		programIs(t, fn("f", of(i, "same")...), i <= mostParams)
		names = append(names, "p"+strconv.Itoa(i))
	}
	// One item of many has too many.
	p := items(rightItems()...)
	programIs(t, p, true)
	p.Items = append(p.Items, fn("g", names[:21]...).Items...)
	programIs(t, p, false)
	if api.MaxParams != mostParams {
		t.Error(api.MaxParams)
	}
}

// P13.1: items that are right, and one that is not at each place.
func TestWrongItems(t *testing.T) {
	programIs(t, api.Program{}, true)
	programIs(t, api.Program{Items: []api.Item{}}, true)
	right := rightItems()
	programIs(t, items(right...), true)
	one := []api.Expr{number(1)}
	for _, wrong := range []api.Item{
		{}, {Kind: 5}, {Kind: math.MaxUint8}, {Kind: api.IRule}, {Kind: api.IFunc}, {Kind: api.IFunc, Name: "f", Params: []string{""}}, {Kind: api.IBegin, HasBody: true}, {Kind: api.IEnd, Exprs: one}, {Kind: api.IBegin, Name: "x"}, {Kind: api.IEnd, Params: []string{"a"}},
		{Kind: api.IRule, Exprs: []api.Expr{{}}}, {Kind: api.IRule, Exprs: []api.Expr{one[0], number(-1)}}, {Kind: api.IBegin, Body: []api.Stmt{{}}}, {Kind: api.IRule, Exprs: one, Body: []api.Stmt{exprStmt(one[0])}},
	} {
		programIs(t, items(wrong), false)
		for at := range len(right) + 1 {
			programIs(t, items(slices.Insert(slices.Clone(right), at, wrong)...), false)
		}
	}
}

// P13.1: a part that is not right, at each place of an item.
func TestWrongPartsOfItems(t *testing.T) {
	for _, item := range rightItems() {
		for at := range item.Exprs {
			for _, wrong := range wrongAtoms() {
				turned := item
				turned.Exprs = slices.Clone(item.Exprs)
				turned.Exprs[at] = wrong
				programIs(t, items(turned), false)
			}
		}
		if item.Kind == api.IRule && !item.HasBody {
			continue
		}
		for _, wrong := range wrongStatements() {
			turned := item
			turned.Body = []api.Stmt{wrong}
			programIs(t, items(turned), false)
			turned.Body = []api.Stmt{exprStmt(number(1)), wrong, exprStmt(number(1))}
			programIs(t, items(turned), false)
		}
	}
}
