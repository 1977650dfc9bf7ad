package resolve

import (
	"strings"
	"testing"

	"winnower/api"
)

// mark is something at fault, as an expression, and what its fault is.
type mark struct {
	text string
	err  api.Errno
}

// marks have each error that an expression may have.
func marks() []mark {
	return []mark{{"none()", api.ErrCall}, {"rand(1)", api.ErrCount}, {"NR[1]", api.ErrUse}, {"g_", api.ErrUse}, {"g_(1, 2, 3)", api.ErrCount}, {"split(1, 2)", api.ErrUse}, {"sub(1, 2, 3)", api.ErrUse}, {"index(1)", api.ErrCount}, {"none(1, 2)", api.ErrCall}}
}

// first says that of two things at fault in a source, at @1 and at @2, that at @1
// counts, whatever they are, with its line.
func first(t *testing.T, line int, text string) {
	t.Helper()
	for _, a := range marks() {
		for _, b := range marks() {
			if a.err == b.err {
				continue
			}
			both := strings.NewReplacer("@1", "("+a.text+")", "@2", "("+b.text+")").Replace(text)
			faulty(t, a.err, line, both+"\nfunction g_(p_, q_) { }")
		}
	}
}

// P16.2: item by item, a rule's Exprs ahead of its Body.
func TestOrderOfItems(t *testing.T) {
	first(t, 1, "{ @1 }\n{ @2 }")
	first(t, 1, "@1\n@2")
	first(t, 2, "BEGIN {\n@1 }\nEND {\n@2 }")
	first(t, 1, "END { @1 }\nBEGIN { @2 }")
	first(t, 1, "function f() { @1 } { @2 }")
	first(t, 2, "\n{ @1 } function f() { @2 }")
	first(t, 1, "@1 { @2 }")
	first(t, 1, "@1, @2")
	first(t, 1, "v, @1 {\n@2 }")
	first(t, 1, "@1, v {\n@2 }")
	first(t, 2, "\nv,\n@1 {\n@2 }")
	first(t, 2, "v {\n@1 }\n@2")
	first(t, 2, "v {\n@1 }\nv, @2 { v }")
	faulty(t, api.ErrPlace, 1, "{ break }\nBEGIN { none() }")
	faulty(t, api.ErrCall, 1, "{ none() }\nBEGIN { break }")
	faulty(t, api.ErrCall, 1, "none() { break }")
	faulty(t, api.ErrTwice, 1, "function f(g) { none() }\nfunction g() { }")
	faulty(t, api.ErrCall, 1, "{ none() }\nfunction f(g) { }\nfunction g() { }")
	faulty(t, api.ErrTwice, 2, "{ x }\nfunction f(g) { break }\nfunction g(f) { none() }")
}

// P16.2: statement by statement, each ahead of those within it.
func TestOrderOfStatements(t *testing.T) {
	first(t, 1, "BEGIN { @1; @2 }")
	first(t, 2, "BEGIN {\n@1\n@2 }")
	first(t, 1, "{ { @1 }\n @2 }")
	first(t, 2, "{ { { }\n@1\n}\n{ @2 } }")
	first(t, 1, "{ if (@1)\n@2 }")
	first(t, 1, "{ if (@1)\nv; else\n@2 }")
	first(t, 2, "{ if (v)\n@1; else\n@2 }")
	first(t, 3, "{ if (v) {\nv\n@1 } else\n@2 }")
	first(t, 2, "{ if (v)\n@1\n@2 }")
	first(t, 3, "{ if (v)\nv; else\n@1\n@2 }")
	first(t, 1, "{ while (@1)\n@2 }")
	first(t, 2, "{ while (v)\n@1\n@2 }")
	first(t, 1, "{ do\n@2\nwhile (@1) }")
	first(t, 1, "{ do {\n@2\n } while (@1); v }")
	first(t, 2, "{ do\n@1\nwhile (v)\n@2 }")
	first(t, 1, "{ for (v in t) @1\n@2 }")
	first(t, 1, "{ for (;@1;)\n@2 }")
	first(t, 1, "{ for (@1;;)\n@2 }")
	first(t, 1, "{ for (;;@1)\n@2 }")
	first(t, 3, "{ for (;\n;\n@1)\n@2 }")
	first(t, 1, "{ for (@2; @1; v) v }")
	first(t, 1, "{ for (v; @1; @2) v }")
	first(t, 1, "{ for (@1; v; @2) v }")
	first(t, 1, "{ for (@2; @1; @2)\n@2 }")
	first(t, 1, "{ for (@1; v; @2)\n@2 }")
	first(t, 1, "{ for (v; v; @1)\n@2 }")
	first(t, 1, "{ for (;;) @1\n@2 }")
	first(t, 2, "{ while (v) { if (v)\n{ { @1 } }; @2 }\n@2 }")
	faulty(t, api.ErrPlace, 1, "BEGIN { next; none() }")
	faulty(t, api.ErrCall, 1, "BEGIN { none(); next }")
	faulty(t, api.ErrCall, 1, "BEGIN { if (none()) next; else break }")
	faulty(t, api.ErrPlace, 2, "BEGIN { if (v)\nnext; else none() }")
	faulty(t, api.ErrPlace, 3, "BEGIN { if (v)\nv; else\nnext\nnone() }")
	faulty(t, api.ErrCall, 1, "BEGIN { do\nnext\nwhile (none()) }")
	faulty(t, api.ErrPlace, 2, "BEGIN { do\nnext\nwhile (v); none() }")
	faulty(t, api.ErrCall, 1, "BEGIN { for (;; none())\nnext }")
	faulty(t, api.ErrPlace, 1, "BEGIN { return none() }")
	faulty(t, api.ErrCall, 1, "function f() { return none() }")
	faulty(t, api.ErrUse, 1, "{ for (g in t)\nnone() } function g() { }")
	faulty(t, api.ErrUse, 1, "{ for (v in g)\nnone() } function g() { }")
	faulty(t, api.ErrUse, 1, "{ delete g[none()] } function g() { }")
	faulty(t, api.ErrUse, 1, "{ delete NR[none()] }")
	faulty(t, api.ErrCall, 1, "{ delete t[none()]\ndelete NR }")
}

// P16.2: a statement's own name is ahead of its expressions.
func TestOrderWithinStatements(t *testing.T) {
	first(t, 1, "{ print @1, @2 }")
	first(t, 1, "{ print @1 > @2 }")
	first(t, 1, "{ print v, @1 > @2 }")
	first(t, 1, "{ printf v,\n@1,\n@2 }")
	first(t, 1, "{ delete t[@1, @2] }")
	first(t, 1, "{ delete t[v, @1, @2] }")
	first(t, 1, "{ exit @1\n@2 }")
}

// P16.2: expression by expression, each ahead of its kids, these in order.
func TestOrderOfExpressions(t *testing.T) {
	for _, e := range []string{
		"t[@1, @2]", "t[v, @1, @2]", "$(@1 @2)", "t[@1] = @2", "$@1 = @2", "$@1 += @2", "@1 ? @2 : @2", "v ? @1 : @2", "@1 ? v : @2", "@1 || @2", "@1 && @2", "(@1, @2) in t", "@1 ~ @2", "(@1 < @2)", "@1 @2", "@1 - @2", "@1 ^ @2", "- (@1 + @2)",
		"g_(@1, @2)", "g_(t[@1], @2)", "substr(@1, @2)", "substr(@1, v, @2)", "substr(v, @1, @2)", "sub(@1, @2, v)", "sub(v, @1, $@2)", "sub(@1, v, t[@2])", "gsub(@1, @2)", "split(@1, t, @2)", "sprintf(v, @1, v, @2)", "index(@1, @2)",
		"getline $@1 < @2", "getline t[@1, @2]", "@1 | getline $v; @2", "(@1 @1) @2", "@1 (@2 @2)", "length(@1 @2)",
	} {
		first(t, 2, "{\n"+e+" }")
		if !strings.Contains(e, ";") {
			first(t, 1, e+" { @2 }")
		}
	}
	// Of a getline the lvalue is the first kid, though it stands behind.
	first(t, 1, "{ @2 | getline $@1 }")
	for _, row := range []struct {
		err  api.Errno
		text string
	}{
		{api.ErrCall, "none(rand(1))"}, {api.ErrCall, "none(NR[1])"}, {api.ErrCount, "rand(none())"}, {api.ErrCount, "substr(NR[1])"}, {api.ErrCount, "index(none(), NR[1], g_)"},
		{api.ErrCount, "g_(1, 2, none())"}, {api.ErrCount, "g_(none(), 2, 3)"}, {api.ErrCount, "length(none(), 1)"}, {api.ErrUse, "NR[none()]"}, {api.ErrUse, "g_[rand(1)]"}, {api.ErrUse, "none() in NR"}, {api.ErrUse, "(1, none()) in g_"},
		{api.ErrCall, "none() + NR[1]"}, {api.ErrUse, "NR[1] + none()"},
		// A builtin's arguments are looked at behind their number, ahead of what is
		// wrong within them.
		{api.ErrCount, "split(1, 2, 3, 4)"}, {api.ErrCount, "sub(1, 2, 3, 4)"}, {api.ErrCount, "gsub(1)"}, {api.ErrUse, "split(none(), 2)"}, {api.ErrUse, "split(1, none())"}, {api.ErrUse, "split(1, rand(1), none())"}, {api.ErrUse, "sub(none(), 2, 3)"}, {api.ErrUse, "gsub(1, rand(1), none())"},
		// A name counts where it stands.
		{api.ErrCall, "split(none(), NR)"}, {api.ErrCall, "split(none(), g_)"}, {api.ErrUse, "split(1, NR, none())"}, {api.ErrUse, "split(1, g_, rand(1))"}, {api.ErrCall, "sub(none(), 1, g_)"}, {api.ErrUse, "g_(g_, none())"}, {api.ErrUse, "length(g_) + none()"},
	} {
		faultyEverywhere(t, row.err, row.text)
	}
}

// P16.2: with each fault there is the line of its statement, however many lines
// that has, and whatever the lines are.
func TestLines(t *testing.T) {
	for _, line := range []int{0, -7, 1 << 40, -1 << 63, 1<<63 - 1} {
		for _, row := range []struct {
			e   api.Expr
			err api.Errno
		}{
			{call("none"), api.ErrCall}, {call("f", number(1)), api.ErrCount}, {expr(api.XBuiltin, "rand", number(1)), api.ErrCount}, {expr(api.XBuiltin, "split", number(1), number(2)), api.ErrUse},
			{variable("f"), api.ErrUse}, {element("f"), api.ErrUse}, {element("NR"), api.ErrUse}, {expr(api.XNot, "", expr(api.XCat, "", number(1), call("none"))), api.ErrCall},
		} {
			f := function("f", nil)
			f.Line = 8
			rule := api.Item{Kind: api.IRule, Exprs: []api.Expr{number(1), row.e}, Line: line}
			treeFaulty(t, row.err, line, items(f, rule))
			rule.HasBody, rule.Body = true, []api.Stmt{{Kind: api.SNext, Line: 5}}
			treeFaulty(t, row.err, line, items(rule, f))
			s := bare(row.e)
			s.Line = line
			it := begin(api.Stmt{Kind: api.SBlock, Line: 6, Body: []api.Stmt{{Kind: api.SExit, Line: 7}, s}})
			it.Line = 9
			treeFaulty(t, row.err, line, items(it, f))
			loop := api.Stmt{Kind: api.SFor, N: 1, Else: []api.Stmt{s}, Line: 5, Body: []api.Stmt{{Kind: api.SNext, Line: 4}}}
			treeFaulty(t, row.err, line, items(begin(loop), f))
			loop = api.Stmt{Kind: api.SFor, N: 7, Exprs: []api.Expr{number(1)}, Else: []api.Stmt{bare(number(1)), s}, Line: 5}
			treeFaulty(t, row.err, line, items(begin(loop), f))
		}
	}
}
