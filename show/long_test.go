package show

import (
	"strings"
	"testing"

	"winnower/api"
)

// A text and a name of so many bytes.

func quoteOf(n int) api.Expr {
	return quote(strings.Repeat("q", n))
}

func nameOf(n int) string {
	return strings.Repeat("n", n)
}

// exprSized says that an expression's text is told up to as many bytes as a source
// may have. Of n it has so many bytes more than of 1.
func exprSized(t *testing.T, make func(n int) api.Expr) {
	t.Helper()
	least := len(modelX(make(1)))
	for more := -1; more <= 2; more++ {
		size := mostSource + more
		e := make(1 + size - least)
		if more > 0 {
			exprIsNot(t, api.ErrLong, e)
			continue
		}
		tells(t, modelX(e), e)
		if text, _ := Expr(e); len(text) != size {
			t.Errorf("a text of %d bytes, not of %d", len(text), size)
		}
	}
}

// sized says the same of a program's text, and that it goes back.
func sized(t *testing.T, make func(n int) api.Program) {
	t.Helper()
	least, _ := modelShow(make(1))
	for more := -1; more <= 2; more++ {
		size := mostSource + more
		p := make(1 + size - len(least))
		if more > 0 {
			isNot(t, api.ErrLong, p)
			continue
		}
		held(t, p)
		if text, err := Show(p); len(text) != size || err != api.OK {
			t.Errorf("a text of %d bytes, %d; not of %d", len(text), err, size)
		}
	}
}

// P15.1: one great text, a great name, a great pattern, wherever it stands.
func TestOneGreatText(t *testing.T) {
	v := variable("v")
	leaves := []func(n int) api.Expr{
		quoteOf,
		func(n int) api.Expr { return pattern(strings.Repeat("r", n)) },
		func(n int) api.Expr { return expr(api.XCat, "", variable(nameOf(n)), v) },
		func(n int) api.Expr { return expr(api.XCall, nameOf(n), v) },
		func(n int) api.Expr { return expr(api.XIndex, nameOf(n), v) },
		func(n int) api.Expr { return expr(api.XIn, nameOf(n), v) },
		func(n int) api.Expr { return expr(api.XIn, nameOf(n), v, v) },
	}
	for _, leaf := range leaves {
		exprSized(t, leaf)
		sized(t, func(n int) api.Program { return items(rule(leaf(n))) })
		for _, outer := range single() {
			exprSized(t, func(n int) api.Expr { return outer.of(leaf(n)) })
		}
	}
	// Of more bytes than a source has a name is none.
	for _, size := range []int{mostSource - 1, mostSource} {
		tells(t, nameOf(size), variable(nameOf(size)))
		held(t, items(rule(variable(nameOf(size)))))
	}
	exprIsNot(t, api.ErrTree, variable(nameOf(mostSource+1)))
	isNot(t, api.ErrLong, items(rule(variable(nameOf(mostSource)))))
	exprIsNot(t, api.ErrLong, expr(api.XNot, "", variable(nameOf(mostSource))))
	exprIsNot(t, api.ErrLong, quote(strings.Repeat("\x00", 1<<24)))
	exprIsNot(t, api.ErrLong, pattern(strings.Repeat("/", 1<<24)))
}

// P15.1: bytes that take more than one are counted as what they take.
func TestGreatTextsOfMarks(t *testing.T) {
	for _, c := range []struct {
		s    string
		size int // of one
		re   bool
	}{
		{"a", 1, false}, {" ", 1, false}, {"/", 1, false}, {`"`, 2, false}, {`\`, 2, false}, {"\n", 2, false}, {"\x00", 4, false}, {"\t", 4, false}, {"\x7f", 4, false}, {"\xff", 4, false}, {"é", 8, false}, {"\n\x01a", 7, false},
		{"a", 1, true}, {"/", 2, true}, {`\\`, 2, true}, {"\x00", 1, true}, {"é", 2, true}, {"/a", 3, true},
	} {
		count := (mostSource - 20) / c.size
		kind := api.XStr
		if c.re {
			kind = api.XRe
		}
		make := func(n int) api.Expr { return expr(kind, strings.Repeat(c.s, count)+strings.Repeat("x", n)) }
		if text, err := Expr(make(0)); len(text) != 2+count*c.size || err != api.OK {
			t.Errorf("%q, %d times: %d bytes, %d", c.s, count, len(text), err)
		}
		exprSized(t, make)
		sized(t, func(n int) api.Program { return items(rule(make(n))) })
		// The marks at the end are the ones that go beyond it.
		exprIsNot(t, api.ErrLong, expr(kind, strings.Repeat(c.s, mostSource/c.size+1)))
		exprSized(t, func(n int) api.Expr { return expr(kind, strings.Repeat("x", n)+strings.Repeat(c.s, 20)) })
	}
}

// stmtsOf tell statements of all kinds with an expression at each place.
func stmtsOf() []func(e api.Expr) api.Stmt {
	v, s := variable("v"), bare(variable("s"))
	return []func(e api.Expr) api.Stmt{
		bare,
		func(e api.Expr) api.Stmt { return stmt(api.SPrint, e) },
		func(e api.Expr) api.Stmt { return stmt(api.SPrint, v, e, v) },
		func(e api.Expr) api.Stmt { return printed(api.SPrint, 1, e) },
		func(e api.Expr) api.Stmt { return printed(api.SPrintf, 2, v, e) },
		func(e api.Expr) api.Stmt { return printed(api.SPrintf, 3, e, v) },
		func(e api.Expr) api.Stmt { return has(stmt(api.SIf, e), s) },
		func(e api.Expr) api.Stmt { return ifElse(v, list(bare(e)), list(s)) },
		func(e api.Expr) api.Stmt { return ifElse(v, list(s), list(bare(e))) },
		func(e api.Expr) api.Stmt { return has(stmt(api.SWhile, e), s) },
		func(e api.Expr) api.Stmt { return has(stmt(api.SWhile, v), bare(e)) },
		func(e api.Expr) api.Stmt { return has(stmt(api.SDo, e), s) },
		func(e api.Expr) api.Stmt { return has(stmt(api.SDo, v), bare(e)) },
		func(e api.Expr) api.Stmt { return api.Stmt{Kind: api.SFor, N: 1, Else: list(bare(e))} },
		func(e api.Expr) api.Stmt { return api.Stmt{Kind: api.SFor, N: 2, Exprs: []api.Expr{e}} },
		func(e api.Expr) api.Stmt { return api.Stmt{Kind: api.SFor, N: 5, Else: list(s, bare(e))} },
		func(e api.Expr) api.Stmt { return api.Stmt{Kind: api.SFor, Body: list(bare(e), s)} },
		func(e api.Expr) api.Stmt { return stmt(api.SExit, e) },
		func(e api.Expr) api.Stmt { return stmt(api.SReturn, e) },
		func(e api.Expr) api.Stmt { return api.Stmt{Kind: api.SDelete, S: "t", Exprs: []api.Expr{v, e}} },
		func(e api.Expr) api.Stmt { return block(block(bare(e)), s) },
	}
}

// P15.1: a great text at each place of each statement and item.
func TestGreatTextsInStmts(t *testing.T) {
	v, s := variable("v"), bare(variable("s"))
	for _, of := range stmtsOf() {
		sized(t, func(n int) api.Program { return begin(of(quoteOf(n))) })
		sized(t, func(n int) api.Program { return items(braced(rule(v), s, of(variable(nameOf(n))))) })
	}
	for _, make := range []func(n int) api.Program{
		func(n int) api.Program { return items(rule(quoteOf(n), v)) },
		func(n int) api.Program { return items(rule(v, quoteOf(n))) },
		func(n int) api.Program { return items(braced(rule(quoteOf(n)))) },
		func(n int) api.Program { return items(braced(rule(v, quoteOf(n)), s)) },
		func(n int) api.Program { return items(function(nameOf(n), nil)) },
		func(n int) api.Program { return items(function("f", []string{"a", nameOf(n)}, s)) },
		func(n int) api.Program { return items(function(nameOf(n), []string{"a"}, s), rule(v)) },
		func(n int) api.Program {
			return begin(api.Stmt{Kind: api.SForIn, S: nameOf(n), Exprs: names("t"), Body: list(s)})
		},
		func(n int) api.Program { return begin(api.Stmt{Kind: api.SForIn, S: "k", Exprs: names(nameOf(n))}) },
		func(n int) api.Program { return begin(api.Stmt{Kind: api.SDelete, S: nameOf(n)}) },
		func(n int) api.Program { return begin(api.Stmt{Kind: api.SDelete, S: nameOf(n), Exprs: names("v")}) },
		func(n int) api.Program { return items(api.Item{Kind: api.IEnd, Body: list(bare(quoteOf(n)))}) },
		// Two that are half as great each.
		func(n int) api.Program {
			return begin(bare(quoteOf(n/2)), bare(variable(nameOf(n-n/2))), bare(quoteOf(1)))
		},
	} {
		sized(t, make)
	}
	isNot(t, api.ErrLong, items(function("f", of(mostParams, nameOf(mostSource)))))
	isNot(t, api.ErrLong, items(rule(of(2, quoteOf(mostSource/2))...)))
}

// P15.1: what stands behind a text that is too long doesn't make it shorter.
func TestLongAhead(t *testing.T) {
	v, s := variable("v"), bare(variable("s"))
	for _, size := range []int{mostSource - 20, mostSource - 2, mostSource - 1, mostSource, mostSource + 1, 2 * mostSource} {
		great := quoteOf(size)
		for _, of := range stmtsOf() {
			held(t, begin(of(great), s))
			held(t, begin(s, of(great), s, stmt(api.SPrint, v), of(v), has(stmt(api.SWhile, v), s)))
			held(t, items(braced(rule(v), block(of(great), s), s), rule(v), braced(rule(), s)))
			held(t, items(function("f", nil, of(great)), rule(v), rule(v)))
			held(t, begin(of(great), stmt(api.SNext), of(great), s))
		}
		for _, outer := range arounds() {
			held(t, items(rule(outer.of(great), v), rule(v)))
			held(t, begin(stmt(api.SPrint, outer.of(great), v), s, s))
			held(t, begin(printed(api.SPrint, 1, v, outer.of(great)), s, s))
			e := expr(api.XCall, "f", v, outer.of(great), v, outer.of(v))
			if text, err := Expr(e); err == api.OK && len(text) > mostSource || err == api.ErrLong && text != "" || err != api.OK && err != api.ErrLong {
				t.Errorf("Expr = %s, %d", brief(text), err)
			}
		}
		held(t, items(braced(rule(great, v), s), rule(v)))
		held(t, items(rule(v, great), rule(v)))
		held(t, items(function(nameOf(min(size, mostSource)), nil, s), rule(v), rule(v)))
		held(t, begin(api.Stmt{Kind: api.SFor, N: 7, Exprs: names("v"), Else: list(bare(great), s), Body: list(s)}, s))
		held(t, begin(api.Stmt{Kind: api.SForIn, S: nameOf(min(size, mostSource)), Exprs: names("v"), Body: list(s)}, s))
	}
	// One that has no room is followed by many that would.
	isNot(t, api.ErrLong, begin(append(list(bare(quoteOf(mostSource))), of(1000, s)...)...))
	isNot(t, api.ErrLong, begin(append(list(bare(quoteOf(2*mostSource))), of(1000, s)...)...))
	isNot(t, api.ErrLong, items(append([]api.Item{rule(quoteOf(mostSource))}, of(1000, rule(v))...)...))
	exprIsNot(t, api.ErrLong, expr(api.XCall, "f", append([]api.Expr{quoteOf(mostSource)}, of(1000, v)...)...))
	exprIsNot(t, api.ErrLong, expr(api.XCat, "", quoteOf(mostSource), v))
}

// P15.1: many small ones.
func TestManySmallTexts(t *testing.T) {
	v := variable("v")
	exprSized(t, func(n int) api.Expr { return expr(api.XCall, nameOf(n), of(20000, v)...) })
	exprSized(t, func(n int) api.Expr {
		return expr(api.XCall, nameOf(n), of(4000, expr(api.XBin, "+", v, number(0.1)))[:2000]...)
	})
	exprSized(t, func(n int) api.Expr { return expr(api.XIn, nameOf(n), of(16000, quote(""))...) })
	exprSized(t, func(n int) api.Expr { return expr(api.XIndex, nameOf(n), of(5000, expr(api.XNot, "", v))...) })
	for kids := 21840; kids <= 21850; kids++ {
		// 3 bytes each, and one more.
		e := expr(api.XCall, "f", of(kids, v)...)
		if kids <= 21845 {
			tells(t, modelX(e), e)
		} else {
			exprIsNot(t, api.ErrLong, e)
		}
	}
	end := api.Item{Kind: api.IEnd}
	writes(t, strings.Repeat("END {\n}\n", 8192), items(of(8192, end)...))
	isNot(t, api.ErrLong, items(of(8193, end)...))
	isNot(t, api.ErrLong, items(of(1<<17, end)...))
	sized(t, func(n int) api.Program { return items(append(of(8000, end), function(nameOf(n), nil))...) })
	sized(t, func(n int) api.Program {
		return items(append(of(1000, function("f", of(10, "a"))), rule(quoteOf(n)))...)
	})
	sized(t, func(n int) api.Program { return begin(append(of(3000, stmt(api.SContinue)), bare(quoteOf(n)))...) })
	sized(t, func(n int) api.Program {
		return begin(append(of(1900, bare(variable("small_ones_of_25_bytes_xx"))), bare(quoteOf(n)))...)
	})
	sized(t, func(n int) api.Program {
		return items(append(of(1000, braced(rule(v, number(0.1)), stmt(api.SNext))), rule(variable(nameOf(n))))...)
	})
	sized(t, func(n int) api.Program {
		return begin(append(of(600, ifElse(v, list(stmt(api.SBreak)), list(has(stmt(api.SWhile, v))))), bare(quoteOf(n)))...)
	})
	isNot(t, api.ErrLong, begin(of(2000, bare(variable("small_ones_of_some_forty_bytes_xxxxxxxxxx")))...))
	isNot(t, api.ErrLong, items(of(2000, braced(rule(number(0.1)), stmt(api.SContinue)))...))
}

// P15.1: levels take bytes, too.
func TestTextsOfLevels(t *testing.T) {
	v := variable("v")
	for _, levels := range []int{20, 30, 50, 57} {
		for _, around := range []func(body []api.Stmt) api.Stmt{
			func(body []api.Stmt) api.Stmt { return block(body...) },
			func(body []api.Stmt) api.Stmt { return ifElse(v, body, list(stmt(api.SNext))) },
			func(body []api.Stmt) api.Stmt { return has(stmt(api.SDo, v), append(body, stmt(api.SNext))...) },
		} {
			// The lines within have levels + 1 tabs each.
			count := (mostSource - 12000) / (levels + 7)
			sized(t, func(n int) api.Program {
				return begin(append(nestStmt(levels, of(count, stmt(api.SNext)), around), bare(quoteOf(n)))...)
			})
			isNot(t, api.ErrLong, begin(nestStmt(levels, of(mostSource/(levels+6), stmt(api.SNext)), around)...))
		}
	}
	// 59 levels, the last ones twice as many each.
	body := list(stmt(api.SNext))
	for level := range 59 {
		if level < 10 {
			body = append(body, body...)
		}
		body = list(block(body...))
	}
	isNot(t, api.ErrLong, begin(body...))
}

// P15.1: of what is not right, and would be too long, it is said that it is not
// right.
func TestWrongAndLong(t *testing.T) {
	v, great := variable("v"), quoteOf(mostSource)
	exprIsNot(t, api.ErrLong, great)
	long := expr(api.XCall, "f", of(1<<16, v)...)
	shared := doubled(40, v)
	for _, wrong := range wrongExprs() {
		exprIsNot(t, api.ErrTree, expr(api.XCat, "", great, wrong))
		exprIsNot(t, api.ErrTree, expr(api.XCat, "", wrong, great))
		exprIsNot(t, api.ErrTree, expr(api.XCall, "f", great, great, wrong))
		exprIsNot(t, api.ErrTree, expr(api.XCat, "", shared, wrong))
		isNot(t, api.ErrTree, items(rule(great), rule(wrong)))
		isNot(t, api.ErrTree, items(rule(wrong), rule(great)))
		isNot(t, api.ErrTree, begin(bare(great), bare(wrong)))
	}
	exprIsNot(t, api.ErrTree, expr(api.XCat, "", long, number(-1)))
	exprIsNot(t, api.ErrTree, doubled(40, number(-1)))
	for _, wrong := range wrongStmts() {
		isNot(t, api.ErrTree, begin(bare(great), wrong))
		isNot(t, api.ErrTree, begin(wrong, bare(great)))
	}
	isNot(t, api.ErrLong, items(rule(great)))
	isNot(t, api.ErrTree, items(rule(great), rule()))
	isNot(t, api.ErrTree, items(append(of(1<<14, api.Item{Kind: api.IEnd}), api.Item{})...))
	isNot(t, api.ErrTree, items(rule(long)))
	isNot(t, api.ErrTree, begin(append(of(mostNodes, stmt(api.SNext)), bare(great))...))
	isNot(t, api.ErrTree, begin(bare(great), bare(nest(mostNest, v, func(e api.Expr) api.Expr { return expr(api.XNot, "", e) }))))
}
