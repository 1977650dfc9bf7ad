package show

import (
	"fmt"
	"math"
	"math/rand"
	"reflect"
	"slices"
	"strconv"
	"strings"
	"testing"

	"winnower/api"
	"winnower/nodes"
	"winnower/parse"
)

// The limits, as the document has them.
const (
	mostNest   = 60
	mostNodes  = 4000
	mostParams = 20
	mostSource = 65536
)

func seeded() *rand.Rand {
	return rand.New(rand.NewSource(15))
}

func builtinWords() []string {
	return []string{"length", "substr", "index", "split", "sub", "gsub", "match", "sprintf", "tolower", "toupper", "int", "srand", "rand", "close", "system"}
}

// signsOf tells which S an expression of a kind may have, where chapter 13 lists
// them.
func signsOf(kind api.ExprKind) []string {
	switch kind {
	case api.XAssign:
		return []string{"=", "+=", "-=", "*=", "/=", "%=", "^="}
	case api.XMatch:
		return []string{"~", "!~"}
	case api.XCmp:
		return []string{"<", "<=", "==", "!=", ">", ">="}
	case api.XBin:
		return []string{"+", "-", "*", "/", "%", "^"}
	case api.XPre, api.XPost:
		return []string{"++", "--"}
	}
	return nil
}

func number(f float64) api.Expr {
	return api.Expr{Kind: api.XNum, N: math.Float64bits(f)}
}

func variable(name string) api.Expr {
	return api.Expr{Kind: api.XVar, S: name}
}

func quote(s string) api.Expr {
	return api.Expr{Kind: api.XStr, S: s}
}

func pattern(s string) api.Expr {
	return api.Expr{Kind: api.XRe, S: s}
}

func expr(kind api.ExprKind, s string, kids ...api.Expr) api.Expr {
	return api.Expr{Kind: kind, S: s, Kids: kids}
}

func getline(n uint64, kids ...api.Expr) api.Expr {
	return api.Expr{Kind: api.XGetline, N: n, Kids: kids}
}

func stmt(kind api.StmtKind, exprs ...api.Expr) api.Stmt {
	return api.Stmt{Kind: kind, Exprs: exprs}
}

func bare(e api.Expr) api.Stmt {
	return stmt(api.SExpr, e)
}

// has tells a statement with a body.
func has(s api.Stmt, body ...api.Stmt) api.Stmt {
	s.Body = body
	return s
}

func block(body ...api.Stmt) api.Stmt {
	return api.Stmt{Kind: api.SBlock, Body: body}
}

// printed tells a print or a printf to somewhere, by its N.
func printed(kind api.StmtKind, n int, exprs ...api.Expr) api.Stmt {
	return api.Stmt{Kind: kind, N: n, Exprs: exprs}
}

// of tells a list of so many of one thing.
func of[T any](n int, one T) []T {
	many := make([]T, n)
	for i := range many {
		many[i] = one
	}
	return many
}

func names(some ...string) []api.Expr {
	return mapped(some, variable)
}

func mapped[S, T any](list []S, turned func(S) T) []T {
	var all []T
	for _, one := range list {
		all = append(all, turned(one))
	}
	return all
}

func items(some ...api.Item) api.Program {
	return api.Program{Items: some}
}

func begin(body ...api.Stmt) api.Program {
	return items(api.Item{Kind: api.IBegin, Body: body})
}

func rule(exprs ...api.Expr) api.Item {
	return api.Item{Kind: api.IRule, Exprs: exprs}
}

// braced tells a rule with a body.
func braced(it api.Item, body ...api.Stmt) api.Item {
	it.HasBody, it.Body = true, body
	return it
}

// brief keeps what a failing test tells short, of trees that nobody could tell to
// their end, too.
func brief(a any) string {
	var s string
	switch a := a.(type) {
	case string:
		s = strconv.Quote(a)
	case api.Expr:
		s = briefTree(items(rule(a)), a)
	case api.Program:
		s = briefTree(a, a)
	default:
		s = fmt.Sprintf("%+v", a)
	}
	if len(s) < 300 {
		return s
	}
	return s[:140] + " .. " + s[len(s)-140:] + " of " + strconv.Itoa(len(s)) + " bytes"
}

func briefTree(p api.Program, a any) string {
	if size, depth := nodes.Size(p); size > 10000 {
		return fmt.Sprintf("a tree of %d parts, %d levels", size, depth)
	}
	return fmt.Sprintf("%+v", a)
}

// allOfExprs, allOfStmts and allOf tell copies with all that lists have room for,
// so that what stands behind their ends is seen, too.

func allOfExprs(exprs []api.Expr) []api.Expr {
	exprs = slices.Clone(exprs[:cap(exprs)])
	for i := range exprs {
		exprs[i].Kids = allOfExprs(exprs[i].Kids)
	}
	return exprs
}

func allOfStmts(stmts []api.Stmt) []api.Stmt {
	stmts = slices.Clone(stmts[:cap(stmts)])
	for i := range stmts {
		stmts[i].Exprs = allOfExprs(stmts[i].Exprs)
		stmts[i].Body = allOfStmts(stmts[i].Body)
		stmts[i].Else = allOfStmts(stmts[i].Else)
	}
	return stmts
}

func allOf(p api.Program) []api.Item {
	all := slices.Clone(p.Items[:cap(p.Items)])
	for i := range all {
		all[i].Params = slices.Clone(all[i].Params[:cap(all[i].Params)])
		all[i].Exprs = allOfExprs(all[i].Exprs)
		all[i].Body = allOfStmts(all[i].Body)
	}
	return all
}

// plain tells a program without lines, and with none in place of each empty list.
func plain(p api.Program) api.Program {
	p.Items = mapped(p.Items, func(it api.Item) api.Item {
		it.Line = 0
		it.Params = mapped(it.Params, func(s string) string { return s })
		it.Exprs, it.Body = mapped(it.Exprs, plainExpr), mapped(it.Body, plainStmt)
		return it
	})
	return p
}

func plainExpr(e api.Expr) api.Expr {
	e.Kids = mapped(e.Kids, plainExpr)
	return e
}

func plainStmt(s api.Stmt) api.Stmt {
	s.Line = 0
	s.Exprs, s.Body, s.Else = mapped(s.Exprs, plainExpr), mapped(s.Body, plainStmt), mapped(s.Else, plainStmt)
	return s
}

// same says whether two programs are, but for lines; an empty list is as none.
func same(a, b api.Program) bool {
	return reflect.DeepEqual(plain(a), plain(b))
}

// goesBack says that what was shown of a program is parsed to it, and that this is
// shown likewise.
func goesBack(t *testing.T, p api.Program, text string) {
	t.Helper()
	back, fault := parse.Parse(text)
	if fault != (api.Fault{}) || !same(back, p) {
		t.Errorf("Parse(%s) = %s, %+v; want %s", brief(text), brief(back), fault, brief(p))
		return
	}
	if again, err := Show(back); again != text || err != api.OK {
		t.Errorf("Show of what Parse tells = %s, %d; want %s", brief(again), err, brief(text))
	}
}

// held says that Show does of a program what the model does, that what is shown
// goes back, and that nothing of the program is turned.
func held(t *testing.T, p api.Program) {
	t.Helper()
	before := allOf(p)
	text, err := Show(p)
	want, wantErr := modelShow(p)
	if text != want || err != wantErr {
		t.Errorf("Show(%s) = %s, %d; want %s, %d", brief(p), brief(text), err, brief(want), wantErr)
	}
	if !reflect.DeepEqual(before, allOf(p)) {
		t.Errorf("%s was changed", brief(p))
	}
	if err == api.OK && wantErr == api.OK {
		goesBack(t, p, text)
	}
}

// writes says what the text of a program is.
func writes(t *testing.T, want string, p api.Program) {
	t.Helper()
	if text, err := Show(p); text != want || err != api.OK {
		t.Errorf("Show(%s) = %s, %d; want %s", brief(p), brief(text), err, brief(want))
	}
	held(t, p)
}

// tells says what the text of an expression by itself is.
func tells(t *testing.T, want string, e api.Expr) {
	t.Helper()
	before := allOfExprs([]api.Expr{e})
	if text, err := Expr(e); text != want || err != api.OK {
		t.Errorf("Expr(%s) = %s, %d; want %s", brief(e), brief(text), err, brief(want))
	}
	if text, err := modelWhole(e); text != want || err != api.OK {
		t.Errorf("the model of %s has %s, %d; want %s", brief(e), brief(text), err, brief(want))
	}
	if !reflect.DeepEqual(before, allOfExprs([]api.Expr{e})) {
		t.Errorf("%s was changed", brief(e))
	}
}

// shows says what the text of an expression is, by itself and wherever it stands;
// closed: as a kid, too, without parentheses.
func shows(t *testing.T, want string, closed bool, e api.Expr) {
	t.Helper()
	tells(t, want, e)
	kid := want
	if !closed {
		kid = "(" + want + ")"
	}
	v, s := variable("v"), bare(variable("s"))
	writes(t, want+"\n", items(rule(e)))
	writes(t, "v, "+want+" {\n\ts\n}\n", items(braced(rule(v, e), s)))
	writes(t, want+", "+want+" {\n}\n", items(braced(rule(e, e))))
	writes(t, "BEGIN {\n\t"+want+"\n\tprint "+kid+"\n\tprint "+kid+", v, "+kid+"\n\tprint v > "+kid+"\n\tprint >> "+kid+"\n\tprintf "+kid+" | "+kid+"\n}\n", begin(
		bare(e), stmt(api.SPrint, e), stmt(api.SPrint, e, v, e), printed(api.SPrint, 1, v, e), printed(api.SPrint, 2, e), printed(api.SPrintf, 3, e, e)))
	writes(t, "BEGIN {\n\tif ("+want+") {\n\t}\n\twhile ("+want+") {\n\t}\n\tdo {\n\t} while ("+want+")\n\texit "+want+"\n\treturn "+want+"\n\tdelete t["+kid+"]\n\tdelete t[v, "+kid+"]\n}\n", begin(
		stmt(api.SIf, e), stmt(api.SWhile, e), stmt(api.SDo, e), stmt(api.SExit, e), stmt(api.SReturn, e), api.Stmt{Kind: api.SDelete, S: "t", Exprs: []api.Expr{e}}, api.Stmt{Kind: api.SDelete, S: "t", Exprs: []api.Expr{v, e}}))
	writes(t, "{\n\tfor ("+want+"; "+want+"; "+want+") {\n\t\t"+want+"\n\t}\n}\n", items(braced(rule(),
		api.Stmt{Kind: api.SFor, N: 7, Exprs: []api.Expr{e}, Else: of(2, bare(e)), Body: of(1, bare(e))})))
}

// writesStmts says what statements' lines are, at level 1 and within others.
func writesStmts(t *testing.T, want string, stmts ...api.Stmt) {
	t.Helper()
	deeper := func(lines string, levels int) string {
		var all strings.Builder
		for line := range strings.Lines(lines) {
			all.WriteString(strings.Repeat("\t", levels) + line)
		}
		return all.String()
	}
	v, s := variable("v"), bare(variable("s"))
	writes(t, "BEGIN {\n"+deeper(want, 1)+"}\n", begin(stmts...))
	writes(t, "END {\n"+deeper(want, 1)+"}\n", items(api.Item{Kind: api.IEnd, Body: stmts}))
	writes(t, "{\n"+deeper(want, 1)+"}\nv {\n"+deeper(want, 1)+"}\n", items(braced(rule(), stmts...), braced(rule(v), stmts...)))
	writes(t, "function f(a) {\n\ts\n"+deeper(want, 1)+"\ts\n}\n", items(api.Item{Kind: api.IFunc, Name: "f", Params: []string{"a"}, Body: append(append([]api.Stmt{s}, stmts...), s)}))
	writes(t, "BEGIN {\n\t{\n"+deeper(want, 2)+"\t}\n}\n", begin(block(stmts...)))
	writes(t, "BEGIN {\n\tif (v) {\n"+deeper(want, 2)+"\t} else {\n"+deeper(want, 2)+"\t}\n}\n", begin(api.Stmt{Kind: api.SIf, Exprs: []api.Expr{v}, Body: stmts, Else: stmts}))
	writes(t, "BEGIN {\n\twhile (v) {\n"+deeper(want, 2)+"\t}\n\tdo {\n"+deeper(want, 2)+"\t} while (v)\n}\n", begin(has(stmt(api.SWhile, v), stmts...), has(stmt(api.SDo, v), stmts...)))
	writes(t, "BEGIN {\n\tfor (; ; ) {\n\t\tfor (k in t) {\n"+deeper(want, 3)+"\t\t}\n\t}\n}\n", begin(
		api.Stmt{Kind: api.SFor, Body: []api.Stmt{{Kind: api.SForIn, S: "k", Exprs: names("t"), Body: stmts}}}))
	deep := stmts
	for range 20 {
		deep = []api.Stmt{block(deep...)}
	}
	var open, close strings.Builder
	for level := range 20 {
		open.WriteString(strings.Repeat("\t", level+1) + "{\n")
		close.WriteString(strings.Repeat("\t", 20-level) + "}\n")
	}
	writes(t, "BEGIN {\n"+open.String()+deeper(want, 21)+close.String()+"}\n", begin(deep...))
}

// isNot says that Expr and Show tell nothing but an error of what is no right tree.
func isNot(t *testing.T, want api.Errno, p api.Program) {
	t.Helper()
	if text, err := Show(p); text != "" || err != want {
		t.Errorf("Show(%s) = %s, %d; want nothing, %d", brief(p), brief(text), err, want)
	}
	if right := nodes.Right(p); right == (want == api.ErrTree) {
		t.Errorf("Right(%s) = %v", brief(p), right)
	}
}

func exprIsNot(t *testing.T, want api.Errno, e api.Expr) {
	t.Helper()
	if text, err := Expr(e); text != "" || err != want {
		t.Errorf("Expr(%s) = %s, %d; want nothing, %d", brief(e), brief(text), err, want)
	}
	if right := nodes.Expr(e); right == (want == api.ErrTree) {
		t.Errorf("nodes.Expr(%s) = %v", brief(e), right)
	}
}
