package parse

import (
	"fmt"
	"math"
	"math/rand"
	"reflect"
	"strconv"
	"strings"
	"testing"

	"winnower/api"
	"winnower/nodes"
)

// The limits, as the document has them.
const (
	mostNest   = 60
	mostNodes  = 4000
	mostParams = 20
	mostSource = 65536
)

func seeded() *rand.Rand {
	return rand.New(rand.NewSource(14))
}

func builtinWords() []string {
	return []string{"length", "substr", "index", "split", "sub", "gsub", "match", "sprintf", "tolower", "toupper", "int", "srand", "rand", "close", "system"}
}

func expr(kind api.ExprKind, s string, kids ...api.Expr) api.Expr {
	return api.Expr{Kind: kind, S: s, Kids: kids}
}

// brief keeps what a failing test tells short.
func brief(a any) string {
	s := fmt.Sprintf("%+v", a)
	if text, ok := a.(string); ok {
		s = strconv.Quote(text)
	}
	if len(s) < 300 {
		return s
	}
	return s[:140] + " .. " + s[len(s)-140:] + " of " + strconv.Itoa(len(s)) + " bytes"
}

// Trees as short texts: what is done stands ahead, in parentheses.

func sayExpr(e api.Expr) string {
	heads := map[api.ExprKind]string{
		api.XField: "$", api.XCond: "?", api.XOr: "||", api.XAnd: "&&", api.XNot: "!", api.XCat: "cat", api.XNeg: "neg", api.XPlus: "plus",
		api.XIn: "in:" + e.S, api.XIndex: e.S + "[]", api.XCall: e.S + "()", api.XBuiltin: e.S, api.XPre: "pre" + e.S, api.XPost: "post" + e.S,
		api.XAssign: e.S, api.XMatch: e.S, api.XCmp: e.S, api.XBin: e.S, api.XGetline: "get:" + strconv.FormatUint(e.N, 10),
	}
	switch e.Kind {
	case api.XNum:
		return strconv.FormatFloat(math.Float64frombits(e.N), 'g', -1, 64)
	case api.XStr:
		return strconv.Quote(e.S)
	case api.XRe:
		return "/" + e.S + "/"
	case api.XVar:
		return e.S
	}
	return "(" + heads[e.Kind] + sayExprs(e.Kids) + ")"
}

func sayExprs(exprs []api.Expr) string {
	var says strings.Builder
	for _, e := range exprs {
		says.WriteString(" " + sayExpr(e))
	}
	return says.String()
}

func sayStmt(s api.Stmt) string {
	exprs, body := sayExprs(s.Exprs), sayStmts(s.Body)
	switch s.Kind {
	case api.SExpr:
		return strings.TrimSpace(exprs)
	case api.SPrint:
		return fmt.Sprintf("print:%d%s", s.N, exprs)
	case api.SPrintf:
		return fmt.Sprintf("printf:%d%s", s.N, exprs)
	case api.SIf:
		if len(s.Else) > 0 {
			return "if" + exprs + " " + body + " else " + sayStmts(s.Else)
		}
		return "if" + exprs + " " + body
	case api.SWhile:
		return "while" + exprs + " " + body
	case api.SDo:
		return "do " + body + exprs
	case api.SFor:
		return fmt.Sprintf("for:%d %s%s %s", s.N, sayStmts(s.Else), exprs, body)
	case api.SForIn:
		return "for " + s.S + " in" + exprs + " " + body
	case api.SDelete:
		return "delete " + s.S + exprs
	case api.SBlock:
		return body
	}
	return map[api.StmtKind]string{api.SBreak: "break", api.SContinue: "continue", api.SNext: "next", api.SExit: "exit", api.SReturn: "return"}[s.Kind] + exprs
}

func sayStmts(stmts []api.Stmt) string {
	var says []string
	for _, s := range stmts {
		says = append(says, sayStmt(s))
	}
	return "{" + strings.Join(says, "; ") + "}"
}

func sayItem(item api.Item) string {
	switch item.Kind {
	case api.IBegin:
		return "BEGIN " + sayStmts(item.Body)
	case api.IEnd:
		return "END " + sayStmts(item.Body)
	case api.IFunc:
		return "function " + item.Name + "(" + strings.Join(item.Params, " ") + ") " + sayStmts(item.Body)
	}
	says := "rule" + sayExprs(item.Exprs)
	if item.HasBody {
		says += " " + sayStmts(item.Body)
	}
	return says
}

func sayProgram(p api.Program) string {
	var says []string
	for _, item := range p.Items {
		says = append(says, sayItem(item))
	}
	return strings.Join(says, " & ")
}

// held says that Parse tells of a source what the model does, and that what it
// tells may be.
func held(t *testing.T, text string) (api.Program, api.Fault) {
	t.Helper()
	p, fault := Parse(text)
	want, wantFault := modelParse(text)
	if fault != wantFault || !same(p, want) {
		t.Errorf("Parse(%s) = %s, %+v; the model has %s, %+v", brief(text), brief(sayProgram(p)), fault, brief(sayProgram(want)), wantFault)
	}
	if fault != (api.Fault{}) && p.Items != nil {
		t.Errorf("Parse(%s) has items beside %+v", brief(text), fault)
	}
	if fault == (api.Fault{}) && !nodes.Right(p) {
		t.Errorf("Parse(%s) = %s, which is not right", brief(text), brief(sayProgram(p)))
	}
	return p, fault
}

// same says whether two programs are, an empty list and none too.
func same(a, b api.Program) bool {
	return reflect.DeepEqual(plain(a), plain(b))
}

// plain tells a program with none in place of each empty list.
func plain(p api.Program) api.Program {
	p.Items = mapped(p.Items, func(item api.Item) api.Item {
		item.Params = mapped(item.Params, func(s string) string { return s })
		item.Exprs, item.Body = mapped(item.Exprs, plainExpr), mapped(item.Body, plainStmt)
		return item
	})
	return p
}

func plainExpr(e api.Expr) api.Expr {
	e.Kids = mapped(e.Kids, plainExpr)
	return e
}

func plainStmt(s api.Stmt) api.Stmt {
	s.Exprs, s.Body, s.Else = mapped(s.Exprs, plainExpr), mapped(s.Body, plainStmt), mapped(s.Else, plainStmt)
	return s
}

func mapped[T any](list []T, turned func(T) T) []T {
	var all []T
	for _, one := range list {
		all = append(all, turned(one))
	}
	return all
}

// tells says what a source tells.
func tells(t *testing.T, text, want string) {
	t.Helper()
	p, fault := held(t, text)
	if got := sayProgram(p); got != want || fault != (api.Fault{}) {
		t.Errorf("Parse(%s) = %s, %+v; want %s", brief(text), brief(got), fault, brief(want))
	}
}

// tellsExpr says what an expression tells, wherever one may stand.
func tellsExpr(t *testing.T, text, want string) {
	t.Helper()
	tells(t, "{ "+text+" }", "rule {"+want+"}")
	tells(t, text, "rule "+want)
	tells(t, "BEGIN { x["+text+"]; y = "+text+"\nf("+text+") }", "BEGIN {(x[] "+want+"); (= y "+want+"); (f() "+want+")}")
	tells(t, "a, "+text, "rule a "+want)
}

func refuses(t *testing.T, text string, err api.Errno, line int) {
	t.Helper()
	want := api.Fault{Err: err, Line: line}
	if p, fault := held(t, text); fault != want {
		t.Errorf("Parse(%s) = %s, %+v; want %+v", brief(text), brief(sayProgram(p)), fault, want)
	}
}

// refusesExpr says that no expression is a text, wherever one may stand.
func refusesExpr(t *testing.T, text string) {
	t.Helper()
	refuses(t, "{ "+text+" }", api.ErrSyntax, 1)
	refuses(t, text, api.ErrSyntax, 1)
	refuses(t, "BEGIN { x["+text+"] }", api.ErrSyntax, 1)
}
