package show

import (
	"strings"
	"testing"

	"winnower/api"
)

// ifElse tells an if with an Else.
func ifElse(e api.Expr, body, other []api.Stmt) api.Stmt {
	return api.Stmt{Kind: api.SIf, Exprs: []api.Expr{e}, Body: body, Else: other}
}

func list(stmts ...api.Stmt) []api.Stmt {
	return stmts
}

// P15.1: each statement, at all levels, with empty bodies and with many
// statements in them.
func TestEachStatement(t *testing.T) {
	a, s, n := variable("a"), bare(variable("s")), stmt(api.SNext)
	forIn := api.Stmt{Kind: api.SForIn, S: "k", Exprs: names("t")}
	for _, c := range []struct {
		open, close string
		of          func(body []api.Stmt) api.Stmt
	}{
		{"if (a) {\n", "}\n", func(body []api.Stmt) api.Stmt { return has(stmt(api.SIf, a), body...) }},
		{"while (a) {\n", "}\n", func(body []api.Stmt) api.Stmt { return has(stmt(api.SWhile, a), body...) }},
		{"do {\n", "} while (a)\n", func(body []api.Stmt) api.Stmt { return has(stmt(api.SDo, a), body...) }},
		{"for (; ; ) {\n", "}\n", func(body []api.Stmt) api.Stmt { return has(stmt(api.SFor), body...) }},
		{"for (k in t) {\n", "}\n", func(body []api.Stmt) api.Stmt { return has(forIn, body...) }},
		{"{\n", "}\n", func(body []api.Stmt) api.Stmt { return block(body...) }},
		{"if (a) {\n\ts\n} else {\n", "}\n", func(body []api.Stmt) api.Stmt { return ifElse(a, list(s), append(body, n)) }},
	} {
		for _, count := range []int{0, 1, 2, 50} {
			lines, stmts := strings.Repeat("\ts\n\tnext\n", count), []api.Stmt{}
			for range count {
				stmts = append(stmts, s, n)
			}
			one := c.of(stmts)
			if strings.Contains(c.open, "else") {
				lines += "\tnext\n"
			}
			writesStmts(t, c.open+lines+c.close, one)
			writesStmts(t, "s\n"+c.open+lines+c.close+"s\n"+c.open+lines+c.close, s, one, s, one)
		}
	}
	for _, c := range []struct {
		want string
		s    api.Stmt
	}{
		{"s", s}, {"print", stmt(api.SPrint)}, {"print a", stmt(api.SPrint, a)}, {"printf a", stmt(api.SPrintf, a)}, {"break", stmt(api.SBreak)}, {"continue", stmt(api.SContinue)}, {"next", n},
		{"exit", stmt(api.SExit)}, {"exit a", stmt(api.SExit, a)}, {"return", stmt(api.SReturn)}, {"return a", stmt(api.SReturn, a)}, {"delete t", api.Stmt{Kind: api.SDelete, S: "t"}}, {"delete t[a]", api.Stmt{Kind: api.SDelete, S: "t", Exprs: []api.Expr{a}}},
	} {
		writesStmts(t, c.want+"\n", c.s)
		writesStmts(t, c.want+"\ns\n"+c.want+"\n"+c.want+"\n", c.s, s, c.s, c.s)
		writesStmts(t, strings.Repeat(c.want+"\n", 100), of(100, c.s)...)
	}
}

// P15.1: print and printf: nothing, one and many that are printed, with each to.
func TestPrints(t *testing.T) {
	a, b, f := variable("a"), variable("b"), quote("f")
	ab, more := expr(api.XCat, "", a, b), expr(api.XCmp, ">", a, b)
	rows := []struct {
		text  string
		exprs []api.Expr
	}{
		{"", nil},
		{" a", names("a")},
		{" a, b", names("a", "b")},
		{" (a b)", []api.Expr{ab}},
		{" (a b), a", []api.Expr{ab, a}},
		{" a, (a b)", []api.Expr{a, ab}},
		{" (a > b)", []api.Expr{more}},
		{" (a > b), (a > b)", []api.Expr{more, more}},
		{" ((a, b) in t)", []api.Expr{expr(api.XIn, "t", a, b)}},
		{" ((a, b) in t), (a in t)", []api.Expr{expr(api.XIn, "t", a, b), expr(api.XIn, "t", a)}},
		{` ("f" | getline)`, []api.Expr{getline(3, f)}},
		{` ("f" | getline a), (getline < "f")`, []api.Expr{getline(11, a, f), getline(2, f)}},
		{" /x/", []api.Expr{pattern("x")}},
		{" /=/, /x/", []api.Expr{pattern("="), pattern("x")}},
		{" ((a > b) (/x/))", []api.Expr{expr(api.XCat, "", more, pattern("x"))}},
		{` "%s\n", (- a), $1, t[(a > b)], f((a > b), a), length()`, []api.Expr{quote("%s\n"), expr(api.XNeg, "", a), expr(api.XField, "", number(1)), expr(api.XIndex, "t", more), expr(api.XCall, "f", more, a), expr(api.XBuiltin, "length")}},
		{" (a = b)", []api.Expr{expr(api.XAssign, "=", a, b)}},
		{" (a ? b : a)", []api.Expr{expr(api.XCond, "", a, b, a)}},
		{" (a++), (++a)", []api.Expr{expr(api.XPost, "++", a), expr(api.XPre, "++", a)}},
		{strings.TrimSuffix(" "+strings.Repeat("a, ", 40), ", "), of(40, a)},
	}
	targets := []struct {
		text string
		e    api.Expr
	}{
		{"a", a}, {`"f"`, f}, {"(a b)", ab}, {"(a > b)", more}, {`("f" "f")`, expr(api.XCat, "", f, f)}, {"/x/", pattern("x")}, {"1", number(1)}, {"t[a, b]", expr(api.XIndex, "t", a, b)}, {"$(a b)", expr(api.XField, "", ab)}, {"f(a)", expr(api.XCall, "f", a)}, {"(f(a) a)", expr(api.XCat, "", expr(api.XCall, "f", a), a)}, {"length()", expr(api.XBuiltin, "length")},
		{"(getline)", getline(1)}, {"(a | getline)", getline(3, a)}, {"(a ? b : a)", expr(api.XCond, "", a, b, a)}, {"((a, b) in t)", expr(api.XIn, "t", a, b)}, {"(! a)", expr(api.XNot, "", a)},
	}
	for kind, word := range map[api.StmtKind]string{api.SPrint: "print", api.SPrintf: "printf"} {
		for _, row := range rows {
			if kind == api.SPrintf && len(row.exprs) == 0 {
				// It has something to print.
				isNot(t, api.ErrTree, begin(stmt(kind)))
				for n := 1; n <= 3; n++ {
					isNot(t, api.ErrTree, begin(printed(kind, n, a)))
				}
				continue
			}
			writesStmts(t, word+row.text+"\n", printed(kind, 0, row.exprs...))
			for _, to := range targets {
				exprs := append(row.exprs[:len(row.exprs):len(row.exprs)], to.e)
				want := word + row.text + " > " + to.text + "\n" + word + row.text + " >> " + to.text + "\n" + word + row.text + " | " + to.text + "\n"
				stmts := list(printed(kind, 1, exprs...), printed(kind, 2, exprs...), printed(kind, 3, exprs...))
				writes(t, "{\n\t"+strings.TrimSuffix(strings.ReplaceAll(want, "\n", "\n\t"), "\t")+"}\n", items(braced(rule(), stmts...)))
			}
			writesStmts(t, word+row.text+` > "f"`+"\n", printed(kind, 1, append(row.exprs[:len(row.exprs):len(row.exprs)], f)...))
		}
	}
}

// P15.1: an if without and with an Else, and ifs within them.
func TestIfs(t *testing.T) {
	a, b := variable("a"), variable("b")
	s, n := bare(variable("s")), stmt(api.SNext)
	inner := ifElse(b, list(n), list(s))
	alone := has(stmt(api.SIf, b), n)
	writesStmts(t, "if (a) {\n}\n", stmt(api.SIf, a))
	writesStmts(t, "if (a) {\n\ts\n\tnext\n}\n", has(stmt(api.SIf, a), s, n))
	writesStmts(t, "if (a) {\n\ts\n} else {\n\tnext\n}\n", ifElse(a, list(s), list(n)))
	writesStmts(t, "if (a) {\n} else {\n\tnext\n\ts\n}\n", ifElse(a, nil, list(n, s)))
	// One without, and one with, in a Body without and with an Else.
	writesStmts(t, "if (a) {\n\tif (b) {\n\t\tnext\n\t}\n}\n", has(stmt(api.SIf, a), alone))
	writesStmts(t, "if (a) {\n\tif (b) {\n\t\tnext\n\t} else {\n\t\ts\n\t}\n}\n", has(stmt(api.SIf, a), inner))
	writesStmts(t, "if (a) {\n\tif (b) {\n\t\tnext\n\t}\n} else {\n\ts\n}\n", ifElse(a, list(alone), list(s)))
	writesStmts(t, "if (a) {\n\tif (b) {\n\t\tnext\n\t} else {\n\t\ts\n\t}\n} else {\n\ts\n}\n", ifElse(a, list(inner), list(s)))
	// In an Else.
	writesStmts(t, "if (a) {\n\ts\n} else {\n\tif (b) {\n\t\tnext\n\t}\n}\n", ifElse(a, list(s), list(alone)))
	writesStmts(t, "if (a) {\n\ts\n} else {\n\tif (b) {\n\t\tnext\n\t} else {\n\t\ts\n\t}\n\tnext\n}\n", ifElse(a, list(s), list(inner, n)))
	writesStmts(t, "if (a) {\n} else {\n\tif (b) {\n\t} else {\n\t\tif (a) {\n\t\t}\n\t}\n}\n", ifElse(a, nil, list(ifElse(b, nil, list(stmt(api.SIf, a))))))
	// A block in each.
	writesStmts(t, "if (a) {\n\t{\n\t}\n} else {\n\t{\n\t\ts\n\t}\n}\n", ifElse(a, list(block()), list(block(s))))
	// In other statements' bodies, with what would take an else behind.
	writesStmts(t, "if (a) {\n\twhile (b) {\n\t\tif (b) {\n\t\t\tnext\n\t\t}\n\t}\n} else {\n\ts\n}\n", ifElse(a, list(has(stmt(api.SWhile, b), alone)), list(s)))
	writesStmts(t, "if (! a) {\n\ts\n}\nif (a = b) {\n} else {\n\tnext\n}\n", has(stmt(api.SIf, expr(api.XNot, "", a)), s), ifElse(expr(api.XAssign, "=", a, b), nil, list(n)))
	// An Else of no elements is none.
	writesStmts(t, "if (a) {\n\ts\n}\n", ifElse(a, list(s), []api.Stmt{}))
}

// P15.1: a for with each of its parts there and not there.
func TestFors(t *testing.T) {
	assign := expr(api.XAssign, "=", variable("i"), number(0))
	less := expr(api.XCmp, "<", variable("i"), number(3))
	step := expr(api.XPost, "++", variable("i"))
	for n, head := range []string{
		"for (; ; ) {\n", "for (i = 0; ; ) {\n", "for (; i < 3; ) {\n", "for (i = 0; i < 3; ) {\n",
		"for (; ; i++) {\n", "for (i = 0; ; i++) {\n", "for (; i < 3; i++) {\n", "for (i = 0; i < 3; i++) {\n",
	} {
		s := api.Stmt{Kind: api.SFor, N: n}
		if n&1 > 0 {
			s.Else = append(s.Else, bare(assign))
		}
		if n&2 > 0 {
			s.Exprs = []api.Expr{less}
		}
		if n&4 > 0 {
			s.Else = append(s.Else, bare(step))
		}
		writesStmts(t, head+"}\n", s)
		writesStmts(t, head+"\tbreak\n\ts\n}\n", has(s, stmt(api.SBreak), bare(variable("s"))))
		writesStmts(t, head+"\t"+head+"\t}\n}\n", has(s, s))
		// A line of the parts is none of the text's.
		for i := range s.Else {
			s.Else[i].Line = 7
		}
		writesStmts(t, head+"}\n", s)
	}
	writesStmts(t, "for (k in t) {\n}\nfor (k in k) {\n\tfor (a in t) {\n\t\tdelete t[a, k]\n\t}\n}\n", api.Stmt{Kind: api.SForIn, S: "k", Exprs: names("t")},
		api.Stmt{Kind: api.SForIn, S: "k", Exprs: names("k"), Body: list(api.Stmt{Kind: api.SForIn, S: "a", Exprs: names("t"), Body: list(api.Stmt{Kind: api.SDelete, S: "t", Exprs: names("a", "k")})})})
}

// P15.1: while and do, by themselves and within one another.
func TestLoops(t *testing.T) {
	a, s := variable("a"), bare(variable("s"))
	while, do := stmt(api.SWhile, a), stmt(api.SDo, a)
	writesStmts(t, "while (a) {\n}\ndo {\n} while (a)\n", while, do)
	writesStmts(t, "while (a) {\n\twhile (a) {\n\t\ts\n\t}\n}\n", has(while, has(while, s)))
	writesStmts(t, "do {\n\twhile (a) {\n\t}\n} while (a)\n", has(do, while))
	writesStmts(t, "do {\n\ts\n\tdo {\n\t\ts\n\t} while (a)\n} while (a)\nwhile (a) {\n\ts\n}\n", has(do, s, has(do, s)), has(while, s))
	writesStmts(t, "while (a) {\n\tdo {\n\t} while (a)\n}\n", has(while, do))
	writesStmts(t, "if (a) {\n\tdo {\n\t\ts\n\t} while (a)\n} else {\n\ts\n}\n", ifElse(a, list(has(do, s)), list(s)))
	writesStmts(t, "while ((a, a) in t) {\n}\ndo {\n} while (getline < a)\n", stmt(api.SWhile, expr(api.XIn, "t", a, a)), stmt(api.SDo, getline(2, a)))
}

// P15.1: exit, return and delete, with and without.
func TestLeaving(t *testing.T) {
	a, b := variable("a"), variable("b")
	for kind, word := range map[api.StmtKind]string{api.SExit: "exit", api.SReturn: "return"} {
		writesStmts(t, word+"\n", stmt(kind))
		writesStmts(t, word+" (a b) (/=/)\n"+word+" - a\n"+word+" /x/\n"+word+" (a, b) in t\n"+word+" getline\n"+word+"\n",
			stmt(kind, expr(api.XCat, "", expr(api.XCat, "", a, b), pattern("="))), stmt(kind, expr(api.XNeg, "", a)), stmt(kind, pattern("x")), stmt(kind, expr(api.XIn, "t", a, b)), stmt(kind, getline(1)), stmt(kind))
		writesStmts(t, word+" 0\n"+word+" \"\"\n"+word+" a = b\n", stmt(kind, number(0)), stmt(kind, quote("")), stmt(kind, expr(api.XAssign, "=", a, b)))
	}
	remove := func(exprs ...api.Expr) api.Stmt { return api.Stmt{Kind: api.SDelete, S: "t", Exprs: exprs} }
	writesStmts(t, "delete t\ndelete t[a]\ndelete t[a, b]\ndelete t[(a b), (- 1), /x/, $1]\ndelete t[((a, b) in t)]\n",
		remove(), remove(a), remove(a, b), remove(expr(api.XCat, "", a, b), expr(api.XNeg, "", number(1)), pattern("x"), expr(api.XField, "", number(1))), remove(expr(api.XIn, "t", a, b)))
}

// P15.1: blocks within blocks, and empty ones.
func TestBlocks(t *testing.T) {
	s := bare(variable("s"))
	writesStmts(t, "{\n}\n", block())
	writesStmts(t, "{\n}\n{\n}\n", block(), block())
	writesStmts(t, "{\n\t{\n\t}\n}\n", block(block()))
	writesStmts(t, "{\n\t{\n\t\t{\n\t\t\ts\n\t\t}\n\t\ts\n\t}\n\ts\n}\ns\n", block(block(block(s), s), s), s)
	writesStmts(t, "{\n\ts\n\t{\n\t}\n\ts\n}\n", block(s, block(), s))
}
