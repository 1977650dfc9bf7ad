package resolve

import (
	"fmt"
	"math"
	"math/rand"
	"reflect"
	"slices"
	"strconv"
	"strings"
	"testing"

	"winnower/api"
	"winnower/nodes"
	"winnower/parse"
)

// The limits, as the document has them.
const (
	mostNest   = 60
	mostNodes  = 4000
	mostParams = 20
	mostSource = 65536
)

func seeded() *rand.Rand {
	return rand.New(rand.NewSource(16))
}

func specials() []string {
	return []string{"NR", "NF", "FNR", "FS", "OFS", "ORS", "RS", "FILENAME", "SUBSEP", "RSTART", "RLENGTH", "CONVFMT", "OFMT"}
}

func number(f float64) api.Expr {
	return api.Expr{Kind: api.XNum, N: math.Float64bits(f)}
}

func variable(name string) api.Expr {
	return api.Expr{Kind: api.XVar, S: name}
}

func expr(kind api.ExprKind, s string, kids ...api.Expr) api.Expr {
	return api.Expr{Kind: kind, S: s, Kids: kids}
}

func call(name string, args ...api.Expr) api.Expr {
	return expr(api.XCall, name, args...)
}

func element(name string) api.Expr {
	return expr(api.XIndex, name, number(1))
}

func stmt(kind api.StmtKind, exprs ...api.Expr) api.Stmt {
	return api.Stmt{Kind: kind, Exprs: exprs}
}

func bare(e api.Expr) api.Stmt {
	return stmt(api.SExpr, e)
}

// of tells a list of so many of one thing.
func of[T any](n int, one T) []T {
	many := make([]T, n)
	for i := range many {
		many[i] = one
	}
	return many
}

func mapped[S, T any](list []S, turned func(S) T) []T {
	var all []T
	for _, one := range list {
		all = append(all, turned(one))
	}
	return all
}

func items(some ...api.Item) api.Program {
	return api.Program{Items: some}
}

func begin(body ...api.Stmt) api.Item {
	return api.Item{Kind: api.IBegin, Body: body}
}

func function(name string, params []string, body ...api.Stmt) api.Item {
	return api.Item{Kind: api.IFunc, Name: name, Params: params, Body: body}
}

// brief keeps what a failing test tells short, of trees that nobody could tell to
// their end, too.
func brief(a any) string {
	if p, ok := a.(api.Program); ok {
		if size, depth := nodes.Size(p); size > 10000 || len(p.Items) > 10000 {
			return fmt.Sprintf("a program of %d items, %d parts, %d levels", len(p.Items), size, depth)
		}
	}
	s := fmt.Sprintf("%+v", a)
	if len(s) < 400 {
		return s
	}
	return s[:190] + " .. " + s[len(s)-190:] + " of " + strconv.Itoa(len(s)) + " bytes"
}

// saySym tells an array with brackets behind its name.
func saySym(s api.Sym) string {
	if s.Array {
		return s.Name + "[]"
	}
	return s.Name
}

func sayFn(fn api.Fn) string {
	return fn.Name + strconv.Itoa(fn.Item) + "(" + strings.Join(mapped(fn.Params, saySym), " ") + ")"
}

// say tells names in short: the globals and, behind a bar, the functions, each
// with its item and its parameters.
func say(n api.Names) string {
	globals, fns := strings.Join(mapped(n.Globals, saySym), " "), strings.Join(mapped(n.Fns, sayFn), " ")
	if globals != "" && fns != "" {
		return globals + " | " + fns
	}
	return globals + fns
}

// plainNames tells names with none in place of each empty list.
func plainNames(n api.Names) api.Names {
	same := func(s api.Sym) api.Sym { return s }
	n.Globals = mapped(n.Globals, same)
	n.Fns = mapped(n.Fns, func(fn api.Fn) api.Fn {
		fn.Params = mapped(fn.Params, same)
		return fn
	})
	return n
}

func sameNames(a, b api.Names) bool {
	return reflect.DeepEqual(plainNames(a), plainNames(b))
}

// allOfExprs, allOfStmts and allOf tell copies with all that lists have room for,
// so that what stands behind their ends is seen, too.

func allOfExprs(exprs []api.Expr) []api.Expr {
	exprs = slices.Clone(exprs[:cap(exprs)])
	for i := range exprs {
		exprs[i].Kids = allOfExprs(exprs[i].Kids)
	}
	return exprs
}

func allOfStmts(stmts []api.Stmt) []api.Stmt {
	stmts = slices.Clone(stmts[:cap(stmts)])
	for i := range stmts {
		stmts[i].Exprs = allOfExprs(stmts[i].Exprs)
		stmts[i].Body = allOfStmts(stmts[i].Body)
		stmts[i].Else = allOfStmts(stmts[i].Else)
	}
	return stmts
}

func allOf(p api.Program) []api.Item {
	all := slices.Clone(p.Items[:cap(p.Items)])
	for i := range all {
		all[i].Params = slices.Clone(all[i].Params[:cap(all[i].Params)])
		all[i].Exprs = allOfExprs(all[i].Exprs)
		all[i].Body = allOfStmts(all[i].Body)
	}
	return all
}

// held says that Resolve does of a program what the model does, that what is told
// follows (P16.4), and that nothing of the program is turned.
func held(t *testing.T, p api.Program) (api.Names, api.Fault) {
	t.Helper()
	before := allOf(p)
	names, fault := Resolve(p)
	want, wantFault := modelResolve(p)
	if fault != wantFault || !sameNames(names, want) {
		t.Errorf("Resolve(%s) = %s, %+v; want %s, %+v", brief(p), brief(say(names)), fault, brief(say(want)), wantFault)
	}
	if !reflect.DeepEqual(before, allOf(p)) {
		t.Errorf("%s was changed", brief(p))
	}
	if fault == (api.Fault{}) {
		sortsHold(t, p, names)
	}
	return names, fault
}

// parsed tells the program of a source that may be parsed.
func parsed(t *testing.T, text string) api.Program {
	t.Helper()
	p, fault := parse.Parse(text)
	if fault.Err != api.OK {
		t.Fatalf("Parse(%s) has %+v", brief(text), fault)
	}
	return p
}

// names says what the names of a source are, in short.
func names(t *testing.T, want, text string) {
	t.Helper()
	if got, fault := held(t, parsed(t, text)); say(got) != want || fault != (api.Fault{}) {
		t.Errorf("the names of %s are %s, %+v; want %s", brief(text), brief(say(got)), fault, brief(want))
	}
}

// isRight says that a source has no fault.
func isRight(t *testing.T, text string) {
	t.Helper()
	if _, fault := held(t, parsed(t, text)); fault != (api.Fault{}) {
		t.Errorf("%s has %+v", brief(text), fault)
	}
}

// faulty says what the fault of a source is.
func faulty(t *testing.T, err api.Errno, line int, text string) {
	t.Helper()
	got, fault := held(t, parsed(t, text))
	if want := (api.Fault{Err: err, Line: line}); fault != want || !reflect.DeepEqual(plainNames(got), api.Names{}) {
		t.Errorf("%s has %s, %+v; want %+v", brief(text), brief(say(got)), fault, want)
	}
}

// treeFaulty says what the fault of a program is, and that there is nothing
// beside it.
func treeFaulty(t *testing.T, err api.Errno, line int, p api.Program) {
	t.Helper()
	got, fault := held(t, p)
	if want := (api.Fault{Err: err, Line: line}); fault != want || !reflect.DeepEqual(plainNames(got), api.Names{}) {
		t.Errorf("Resolve(%s) = %s, %+v; want %+v", brief(p), brief(say(got)), fault, want)
	}
}
