package nodes

import (
	"fmt"
	"math"
	"math/rand"
	"reflect"
	"slices"
	"strings"
	"testing"

	"winnower/api"
)

// The limits, as the document has them.
const (
	mostNest   = 60
	mostNodes  = 4000
	mostParams = 20
	mostSource = 65536
)

func seeded() *rand.Rand {
	return rand.New(rand.NewSource(13))
}

func number(f float64) api.Expr {
	return api.Expr{Kind: api.XNum, N: math.Float64bits(f)}
}

func variable(name string) api.Expr {
	return api.Expr{Kind: api.XVar, S: name}
}

func expr(kind api.ExprKind, s string, kids ...api.Expr) api.Expr {
	return api.Expr{Kind: kind, S: s, Kids: kids}
}

func getline(n uint64, kids ...api.Expr) api.Expr {
	return api.Expr{Kind: api.XGetline, N: n, Kids: kids}
}

func exprStmt(e api.Expr) api.Stmt {
	return api.Stmt{Kind: api.SExpr, Exprs: []api.Expr{e}}
}

// of tells a list of so many of one thing.
func of[T any](n int, one T) []T {
	many := make([]T, n)
	for i := range many {
		many[i] = one
	}
	return many
}

func items(some ...api.Item) api.Program {
	return api.Program{Items: some}
}

func begin(body ...api.Stmt) api.Program {
	return items(api.Item{Kind: api.IBegin, Body: body})
}

// brief keeps what a failing test tells short.
func brief(a any) string {
	s := fmt.Sprintf("%+v", a)
	if len(s) < 300 {
		return s
	}
	return s[:140] + " .. " + s[len(s)-140:]
}

func programIs(t *testing.T, p api.Program, want bool) {
	t.Helper()
	if got := Right(p); got != want {
		t.Errorf("Right(%s) = %v", brief(p), got)
	}
}

// exprIs says whether an expression is right, by itself and wherever one stands.
func exprIs(t *testing.T, e api.Expr, want bool) {
	t.Helper()
	if got := Expr(e); got != want {
		t.Errorf("Expr(%s) = %v", brief(e), got)
	}
	one := number(1)
	for _, outer := range []api.Expr{expr(api.XNot, "", e), expr(api.XCond, "", one, e, one), expr(api.XIndex, "t", one, e)} {
		if got := Expr(outer); got != want {
			t.Errorf("Expr(%s) = %v", brief(outer), got)
		}
	}
	body := []api.Stmt{exprStmt(one)}
	programIs(t, items(api.Item{Kind: api.IRule, Exprs: []api.Expr{e}}), want)
	programIs(t, items(api.Item{Kind: api.IRule, Exprs: []api.Expr{one, e}, HasBody: true}), want)
	programIs(t, begin(exprStmt(e)), want)
	programIs(t, begin(body[0], api.Stmt{Kind: api.SPrint, N: 2, Exprs: []api.Expr{one, e}}), want)
	programIs(t, begin(api.Stmt{Kind: api.SFor, N: 6, Exprs: []api.Expr{e}, Body: body, Else: body}), want)
	programIs(t, begin(api.Stmt{Kind: api.SFor, N: 5, Else: []api.Stmt{body[0], exprStmt(e)}}), want)
}

// stmtIs says whether a statement is right, wherever one stands.
func stmtIs(t *testing.T, s api.Stmt, want bool) {
	t.Helper()
	one := []api.Expr{number(1)}
	body := []api.Stmt{exprStmt(one[0])}
	programIs(t, begin(s), want)
	for _, item := range []api.Item{
		{Kind: api.IEnd, Body: []api.Stmt{body[0], s}},
		{Kind: api.IRule, HasBody: true, Body: []api.Stmt{s, body[0]}},
		{Kind: api.IRule, HasBody: true, Exprs: one, Body: []api.Stmt{s}},
		{Kind: api.IFunc, Name: "f", Body: []api.Stmt{body[0], s, body[0]}},
	} {
		programIs(t, items(item), want)
	}
	for _, outer := range []api.Stmt{
		{Kind: api.SBlock, Body: []api.Stmt{s}},
		{Kind: api.SIf, Exprs: one, Body: []api.Stmt{s}},
		{Kind: api.SIf, Exprs: one, Else: []api.Stmt{body[0], s}},
		{Kind: api.SDo, Exprs: one, Body: []api.Stmt{s}},
		{Kind: api.SForIn, S: "k", Exprs: []api.Expr{variable("t")}, Body: []api.Stmt{s}},
	} {
		programIs(t, begin(body[0], outer), want)
	}
}

func sizeIs(t *testing.T, p api.Program, size, depth int) {
	t.Helper()
	if n, d := Size(p); n != size || d != depth {
		t.Errorf("Size(%s) = %d, %d; want %d, %d", brief(p), n, d, size, depth)
	}
}

// The words of S, as chapters 12 and 13 list them.

func builtinWords() []string {
	return []string{"length", "substr", "index", "split", "sub", "gsub", "match", "sprintf", "tolower", "toupper", "int", "srand", "rand", "close", "system"}
}

func otherWords() []string {
	return []string{"BEGIN", "END", "function", "if", "else", "while", "for", "do", "break", "continue", "next", "exit", "return", "delete", "in", "print", "printf", "getline"}
}

// signsOf tells which S an expression of a kind may have, where the chapter
// lists them.
func signsOf(kind api.ExprKind) []string {
	switch kind {
	case api.XAssign:
		return []string{"=", "+=", "-=", "*=", "/=", "%=", "^="}
	case api.XMatch:
		return []string{"~", "!~"}
	case api.XCmp:
		return []string{"<", "<=", "==", "!=", ">", ">="}
	case api.XBin:
		return []string{"+", "-", "*", "/", "%", "^"}
	case api.XPre, api.XPost:
		return []string{"++", "--"}
	case api.XBuiltin:
		return builtinWords()
	}
	return nil
}

func goodNames() []string {
	return []string{"x", "_", "Z", "a1", "_0_9", "NF", "Print", "Length", "lengths", "in_", "begin", "func", "sin", "E5", "name_of_many_bytes"}
}

func badNames() []string {
	bad := []string{"", " ", "1", "9a", ".", "-x", "$x", "x-y", " x", "x ", "\tx", "x\r", "\nx", "x\n", "\n", "x(", "f()", "x[1]", "x#", "x#y", "#x", "\\\nx", "x\\\n", "x\\\ny", "x\\", "x y", "x,y", "x;y", "x\x00", "\x00", "x\x80", "\x80", "\xff", "caf\u00e9", "\u03b1", "\"x\"", "/x/", "x.", "@"}
	bad = append(bad, builtinWords()...)
	return append(bad, otherWords()...)
}

// longNames are as long as a source may be, and longer.
func longNames() (good, bad []string) {
	most := strings.Repeat("n", mostSource)
	return []string{most, most[:mostSource-1]}, []string{most + "n", most + " ", strings.Repeat(most, 3)}
}

// allOfExprs, allOfStmts and allOf tell copies with all that lists have room for,
// so that what stands behind their ends is seen, too.

func allOfExprs(exprs []api.Expr) []api.Expr {
	exprs = slices.Clone(exprs[:cap(exprs)])
	for i := range exprs {
		exprs[i].Kids = allOfExprs(exprs[i].Kids)
	}
	return exprs
}

func allOfStmts(stmts []api.Stmt) []api.Stmt {
	stmts = slices.Clone(stmts[:cap(stmts)])
	for i := range stmts {
		stmts[i].Exprs = allOfExprs(stmts[i].Exprs)
		stmts[i].Body = allOfStmts(stmts[i].Body)
		stmts[i].Else = allOfStmts(stmts[i].Else)
	}
	return stmts
}

func allOf(p api.Program) []api.Item {
	all := slices.Clone(p.Items[:cap(p.Items)])
	for i := range all {
		all[i].Params = slices.Clone(all[i].Params[:cap(all[i].Params)])
		all[i].Exprs = allOfExprs(all[i].Exprs)
		all[i].Body = allOfStmts(all[i].Body)
	}
	return all
}

// roomy tells a list with room behind its end in which something stands.
func roomy[T any](list []T, behind T) []T {
	more := append(slices.Clone(list), behind, behind)
	return more[:len(list)]
}

func roomyExprs(exprs []api.Expr) []api.Expr {
	exprs = roomy(exprs, variable("behind"))
	for i := range exprs {
		exprs[i].Kids = roomyExprs(exprs[i].Kids)
	}
	return exprs
}

func roomyStmts(stmts []api.Stmt) []api.Stmt {
	stmts = roomy(stmts, api.Stmt{Kind: api.SNext, Line: 77})
	for i := range stmts {
		stmts[i].Exprs = roomyExprs(stmts[i].Exprs)
		stmts[i].Body = roomyStmts(stmts[i].Body)
		stmts[i].Else = roomyStmts(stmts[i].Else)
	}
	return stmts
}

// roomyProgram tells the same program with such lists everywhere: where it has
// none there are lists of no elements.
func roomyProgram(p api.Program) api.Program {
	p.Items = roomy(p.Items, api.Item{Kind: api.IEnd, Line: 78})
	for i := range p.Items {
		p.Items[i].Params = roomy(p.Items[i].Params, "behind")
		p.Items[i].Exprs = roomyExprs(p.Items[i].Exprs)
		p.Items[i].Body = roomyStmts(p.Items[i].Body)
	}
	return p
}

// held says that all three calls tell of a program and its expressions what the
// chapter's words do, and turn nothing of it.
func held(t *testing.T, p api.Program) {
	t.Helper()
	before := allOf(p)
	size, depth := modelSize(p)
	sizeIs(t, p, size, depth)
	programIs(t, p, modelRight(p))
	for _, item := range p.Items {
		for _, e := range item.Exprs {
			if got := Expr(e); got != modelWhole(e) {
				t.Errorf("Expr(%s) = %v", brief(e), got)
			}
		}
	}
	if !reflect.DeepEqual(before, allOf(p)) {
		t.Errorf("%s was changed", brief(p))
	}
}
