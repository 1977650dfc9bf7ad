package parse

import (
	"math"
	"math/rand"
	"slices"
	"strconv"
	"strings"
	"testing"

	"winnower/api"
	"winnower/nodes"
)

// trees tells trees that are right, and their texts, with as few parentheses as
// the grammar lets there be, or with more.
type trees struct {
	*rand.Rand
	more     bool // parentheses where none are needed
	printing bool
}

func pickOf[T any](r *trees, some ...T) T {
	return some[r.Intn(len(some))]
}

func (r *trees) exprs(n, levels int) []api.Expr {
	var list []api.Expr
	for range n {
		list = append(list, r.expr(levels))
	}
	return list
}

func (r *trees) name() string {
	return pickOf(r, "a", "b", "c", "NF", "x1", "_")
}

func (r *trees) lvalue(levels int) api.Expr {
	switch r.Intn(3) {
	case 0:
		return expr(api.XVar, r.name())
	case 1:
		return expr(api.XIndex, r.name(), r.exprs(1+r.Intn(2), levels-1)...)
	}
	return expr(api.XField, "", r.expr(levels-1))
}

func (r *trees) leaf() api.Expr {
	switch r.Intn(6) {
	case 0:
		return api.Expr{Kind: api.XNum, N: math.Float64bits(pickOf(r, 0, 1, 2.5, 1e300, 5e-324, 0.1))}
	case 1:
		return expr(api.XStr, pickOf(r, "", "a", "a\"b\\c\n/", "\x00\xff"))
	case 2:
		return expr(api.XRe, pickOf(r, "", "a", "=", "a/b", "\\.\\\\", "[/]"))
	case 3:
		return api.Expr{Kind: api.XGetline, N: 1}
	}
	return expr(api.XVar, r.name())
}

func (r *trees) expr(levels int) api.Expr {
	if levels <= 1 {
		return r.leaf()
	}
	kids := func(n int) []api.Expr { return r.exprs(n, levels-1) }
	switch kind := api.ExprKind(5 + r.Intn(19)); kind {
	case api.XIndex, api.XField:
		return r.lvalue(levels)
	case api.XAssign:
		return expr(kind, pickOf(r, assignSigns()...), r.lvalue(levels-1), r.expr(levels-1))
	case api.XCond:
		return expr(kind, "", kids(3)...)
	case api.XOr, api.XAnd, api.XCat:
		return expr(kind, "", kids(2)...)
	case api.XNot, api.XNeg, api.XPlus:
		return expr(kind, "", kids(1)...)
	case api.XIn:
		return expr(kind, r.name(), kids(1+r.Intn(3))...)
	case api.XMatch:
		return expr(kind, pickOf(r, "~", "!~"), kids(2)...)
	case api.XCmp:
		return expr(kind, pickOf(r, "<", "<=", "==", "!=", ">", ">="), kids(2)...)
	case api.XBin:
		return expr(kind, pickOf(r, "+", "-", "*", "/", "%", "^"), kids(2)...)
	case api.XPre, api.XPost:
		return expr(kind, pickOf(r, "++", "--"), r.lvalue(levels-1))
	case api.XCall:
		return expr(kind, r.name(), kids(r.Intn(4))...)
	case api.XBuiltin:
		return expr(kind, pickOf(r, builtinWords()...), kids(r.Intn(4))...)
	}
	e := api.Expr{Kind: api.XGetline, N: pickOf[uint64](r, 1, 2, 3, 9, 10, 11)}
	if e.N > 8 {
		e.Kids = append(e.Kids, r.lvalue(levels-1))
	}
	if e.N&7 > 1 {
		e.Kids = append(e.Kids, r.expr(levels-1))
	}
	return e
}

func (r *trees) stmts(n, levels int) []api.Stmt {
	var list []api.Stmt
	for range n {
		if levels > 0 {
			list = append(list, r.stmt(levels))
		}
	}
	return list
}

func (r *trees) stmt(levels int) api.Stmt {
	s := api.Stmt{Kind: api.StmtKind(1 + r.Intn(15))}
	body := func() []api.Stmt { return r.stmts(r.Intn(3), levels-1) }
	switch s.Kind {
	case api.SExpr:
		s.Exprs = r.exprs(1, 4)
	case api.SPrint, api.SPrintf:
		s.N = r.Intn(4)
		least := min(s.N, 1)
		if s.Kind == api.SPrintf {
			least++
		}
		s.Exprs = r.exprs(least+r.Intn(3), 3)
	case api.SIf:
		s.Exprs, s.Body, s.Else = r.exprs(1, 3), body(), body()
	case api.SWhile, api.SDo:
		s.Exprs, s.Body = r.exprs(1, 3), body()
	case api.SFor:
		s.N = r.Intn(8)
		s.Exprs, s.Body = r.exprs(s.N>>1&1, 3), body()
		for range s.N&1 + s.N>>2 {
			s.Else = append(s.Else, api.Stmt{Kind: api.SExpr, Exprs: r.exprs(1, 2)})
		}
	case api.SForIn:
		s.S, s.Exprs, s.Body = r.name(), []api.Expr{expr(api.XVar, r.name())}, body()
	case api.SExit, api.SReturn:
		s.Exprs = r.exprs(r.Intn(2), 3)
	case api.SDelete:
		s.S, s.Exprs = r.name(), r.exprs(r.Intn(3), 2)
	case api.SBlock:
		s.Body = body()
	}
	return s
}

func (r *trees) program() api.Program {
	var p api.Program
	for range 1 + r.Intn(4) {
		item := api.Item{Kind: api.ItemKind(1 + r.Intn(4)), Body: r.stmts(r.Intn(4), 4)}
		switch item.Kind {
		case api.IRule:
			item.Exprs = r.exprs(r.Intn(3), 4)
			if item.HasBody = len(item.Exprs) == 0 || r.Intn(2) == 0; !item.HasBody {
				item.Body = nil
			}
		case api.IFunc:
			item.Name = r.name()
			for range r.Intn(4) {
				item.Params = append(item.Params, r.name())
			}
		}
		p.Items = append(p.Items, item)
	}
	return p
}

// The levels of the grammar's rules: what is of one may stand where one below it
// is asked for.
const (
	ofExpr = iota
	ofCond
	ofOr
	ofAnd
	ofIn
	ofMatch
	ofCmp
	ofPipe
	ofCat
	ofAdd
	ofMul
	ofUnary
	ofRaised
	ofPost
	ofPrimary
)

// text tells an expression's text where a level is asked for.
func (r *trees) text(e api.Expr, level int) string {
	s, of := r.plain(e)
	open := e.Kind == api.XGetline && e.N&7 == 1 && level > ofExpr
	if of < level || open || r.more && r.Intn(3) == 0 && level != ofNoParens {
		return "(" + r.inside(func() string { s, _ := r.plain(e); return s }) + ")"
	}
	return s
}

// ofNoParens is asked for where parentheses would be something else.
const ofNoParens = -1

// inside tells what stands within parentheses, out of print mode.
func (r *trees) inside(tell func() string) string {
	printing := r.printing
	r.printing = false
	defer func() { r.printing = printing }()
	return tell()
}

func (r *trees) list(exprs []api.Expr) string {
	return r.inside(func() string { return r.row(exprs) })
}

func (r *trees) row(exprs []api.Expr) string {
	var texts []string
	for _, e := range exprs {
		texts = append(texts, r.text(e, ofExpr))
	}
	return strings.Join(texts, pickOf(r, ", ", ",", " ,\n"))
}

// plain tells an expression's text and its level.
func (r *trees) plain(e api.Expr) (string, int) {
	kid := func(at, level int) string { return r.text(e.Kids[at], level) }
	switch e.Kind {
	case api.XNum:
		return strconv.FormatFloat(math.Float64frombits(e.N), 'g', -1, 64), ofPrimary
	case api.XStr:
		return quotedText(e.S), ofPrimary
	case api.XRe:
		return "/" + strings.ReplaceAll(e.S, "/", `\/`) + "/", ofPrimary
	case api.XVar:
		return e.S, ofPrimary
	case api.XIndex:
		return e.S + "[" + r.list(e.Kids) + "]", ofPrimary
	case api.XCall:
		return e.S + "(" + r.list(e.Kids) + ")", ofPrimary
	case api.XBuiltin:
		return e.S + pickOf(r, "", " ") + "(" + r.list(e.Kids) + ")", ofPrimary
	case api.XField:
		return "$" + r.placeText(e.Kids[0]), ofPrimary
	case api.XAssign:
		return r.text(e.Kids[0], ofNoParens) + " " + e.S + " " + kid(1, ofExpr), ofExpr
	case api.XCond:
		return kid(0, ofOr) + " ? " + kid(1, ofExpr) + " : " + kid(2, ofExpr), ofCond
	case api.XOr:
		return kid(0, ofOr) + pickOf(r, " || ", "||", "||\n") + kid(1, ofAnd), ofOr
	case api.XAnd:
		return kid(0, ofAnd) + pickOf(r, " && ", "&&", "&& \n") + kid(1, ofIn), ofAnd
	case api.XIn:
		if len(e.Kids) > 1 {
			return "(" + r.list(e.Kids) + ") in " + e.S, ofPrimary
		}
		return kid(0, ofIn) + " in " + e.S, ofIn
	case api.XMatch:
		return kid(0, ofCmp) + " " + e.S + " " + kid(1, ofCmp), ofMatch
	case api.XCmp:
		if e.S == ">" && r.printing {
			return "", ofNoParens - 1
		}
		return kid(0, ofPipe) + " " + e.S + " " + kid(1, ofPipe), ofCmp
	case api.XCat:
		return r.catText(e), ofCat
	case api.XBin:
		return r.binText(e)
	case api.XNot, api.XNeg, api.XPlus:
		sign := map[api.ExprKind]string{api.XNot: "!", api.XNeg: "-", api.XPlus: "+"}[e.Kind]
		return sign + " " + kid(0, ofUnary), ofUnary
	case api.XPre:
		return e.S + r.text(e.Kids[0], ofNoParens), ofPost
	case api.XPost:
		return r.text(e.Kids[0], ofNoParens) + e.S, ofPost
	}
	return r.getlineText(e)
}

func (r *trees) binText(e api.Expr) (string, int) {
	switch e.S {
	case "^":
		return r.text(e.Kids[0], ofPost) + e.S + r.text(e.Kids[1], ofUnary), ofRaised
	case "+", "-":
		return r.text(e.Kids[0], ofAdd) + " " + e.S + " " + r.text(e.Kids[1], ofMul), ofAdd
	}
	return r.text(e.Kids[0], ofMul) + e.S + " " + r.text(e.Kids[1], ofUnary), ofMul
}

func (r *trees) catText(e api.Expr) string {
	first, second := r.text(e.Kids[0], ofCat), r.text(e.Kids[1], ofAdd)
	if strings.IndexByte("-+!/", second[0]) >= 0 || strings.HasPrefix(second, "getline") {
		second = "(" + r.inside(func() string { return r.text(e.Kids[1], ofExpr) }) + ")"
	}
	return first + " " + second
}

// placeText tells what stands behind $.
func (r *trees) placeText(e api.Expr) string {
	switch e.Kind {
	case api.XPre:
		return r.text(e, ofNoParens)
	case api.XNot, api.XNeg, api.XPlus:
		sign := map[api.ExprKind]string{api.XNot: "!", api.XNeg: "-", api.XPlus: "+"}[e.Kind]
		return sign + " " + r.placeText(e.Kids[0])
	}
	return r.text(e, ofPrimary)
}

func (r *trees) getlineText(e api.Expr) (string, int) {
	s := "getline"
	if e.N > 8 {
		s += " " + r.text(e.Kids[0], ofNoParens)
	}
	switch source := len(e.Kids) - 1; e.N & 7 {
	case 2:
		return s + " < " + r.text(e.Kids[source], ofPrimary), ofPrimary
	case 3:
		if r.printing {
			return "", ofNoParens - 1
		}
		return r.text(e.Kids[source], ofPipe) + " | " + s, ofPipe
	}
	return s, ofPrimary
}

func quotedText(s string) string {
	text := `"`
	for _, b := range []byte(s) {
		switch {
		case b == '"' || b == '\\':
			text += `\` + string(rune(b))
		case b == '\n':
			text += `\n`
		case b < 32 || b > 126:
			text += `\` + strconv.FormatInt(int64(b)+01000, 8)[1:]
		default:
			text += string(rune(b))
		}
	}
	return text + `"`
}

// term ends a statement.
func (r *trees) term() string {
	return pickOf(r, ";", "\n", " ;\n", "\n\n", "; # x\n")
}

// part tells a statement's part: a body, ; of none, or its one statement. One that
// would take an else, or another part, is told as a body.
func (r *trees) part(body []api.Stmt) string {
	if len(body) == 0 && r.Intn(2) == 0 {
		return pickOf(r, ";", "\n;", " ;")
	}
	if len(body) == 1 && r.Intn(2) == 0 && !slices.Contains([]api.StmtKind{api.SIf, api.SWhile, api.SFor, api.SForIn, api.SBlock}, body[0].Kind) {
		return pickOf(r, " ", "\n") + r.stmtText(body[0]) + r.term()
	}
	return pickOf(r, "", " ", "\n") + r.body(body)
}

func (r *trees) body(body []api.Stmt) string {
	text := "{" + pickOf(r, "", " ", "\n", ";")
	for _, s := range body {
		text += r.stmtText(s) + r.term()
	}
	return text + "}"
}

func (r *trees) stmtText(s api.Stmt) string {
	switch s.Kind {
	case api.SExpr:
		return r.text(s.Exprs[0], ofExpr)
	case api.SPrint, api.SPrintf:
		return r.printText(s)
	case api.SIf:
		text := "if (" + r.list(s.Exprs) + ")" + r.part(s.Body)
		if len(s.Else) > 0 {
			text += pickOf(r, "", "\n", ";\n") + "else " + r.part(s.Else)
		}
		return text
	case api.SWhile:
		return "while (" + r.list(s.Exprs) + ")" + r.part(s.Body)
	case api.SDo:
		return "do " + r.part(s.Body) + pickOf(r, "", "\n", ";") + "while (" + r.list(s.Exprs) + ")"
	case api.SFor:
		return r.forText(s)
	case api.SForIn:
		return "for (" + s.S + " in " + s.Exprs[0].S + ")" + r.part(s.Body)
	case api.SDelete:
		if len(s.Exprs) > 0 {
			return "delete " + s.S + "[" + r.list(s.Exprs) + "]"
		}
		return "delete " + s.S
	case api.SBlock:
		return r.body(s.Body)
	}
	text := map[api.StmtKind]string{api.SBreak: "break", api.SContinue: "continue", api.SNext: "next", api.SExit: "exit", api.SReturn: "return"}[s.Kind]
	if len(s.Exprs) > 0 {
		text += " " + r.text(s.Exprs[0], ofExpr)
	}
	return text
}

func (r *trees) forText(s api.Stmt) string {
	parts := [3]string{}
	steps := s.Else
	for i := range parts {
		switch {
		case s.N>>i&1 == 0:
		case i == 1:
			parts[i] = r.text(s.Exprs[0], ofExpr)
		default:
			parts[i] = r.text(steps[0].Exprs[0], ofExpr)
			steps = steps[1:]
		}
	}
	return "for (" + parts[0] + ";" + pickOf(r, "", " ", "\n") + parts[1] + ";" + pickOf(r, "", "\n\n") + parts[2] + ")" + r.part(s.Body)
}

func (r *trees) printText(s api.Stmt) string {
	r.printing = true
	defer func() { r.printing = false }()
	text := map[api.StmtKind]string{api.SPrint: "print", api.SPrintf: "printf"}[s.Kind]
	args := s.Exprs
	if s.N > 0 {
		args = args[:len(args)-1]
	}
	switch {
	case len(args) == 0:
	case r.Intn(3) == 0:
		text += pickOf(r, "", " ") + "(" + r.list(args) + ")"
	default:
		text += " " + r.row(args)
	}
	if s.N > 0 {
		text += " " + targets()[s.N] + " " + r.text(s.Exprs[len(args)], ofCat)
	}
	return text
}

func (r *trees) itemText(item api.Item) string {
	switch item.Kind {
	case api.IBegin:
		return "BEGIN" + r.body(item.Body)
	case api.IEnd:
		return "END " + r.body(item.Body)
	case api.IFunc:
		return "function " + item.Name + pickOf(r, "", " ") + "(" + strings.Join(item.Params, pickOf(r, ",", ", \n")) + ")" + pickOf(r, "", "\n") + r.body(item.Body)
	}
	text := r.row(item.Exprs)
	if item.HasBody {
		return text + " " + r.body(item.Body)
	}
	return text + pickOf(r, "\n", ";")
}

// unlined tells a program without lines.
func unlined(p api.Program) api.Program {
	var stmt func(s api.Stmt) api.Stmt
	stmt = func(s api.Stmt) api.Stmt {
		s.Line, s.Body, s.Else = 0, mapped(s.Body, stmt), mapped(s.Else, stmt)
		return s
	}
	p.Items = mapped(p.Items, func(item api.Item) api.Item {
		item.Line, item.Body = 0, mapped(item.Body, stmt)
		return item
	})
	return p
}

// P14.1: a tree's text, with as few parentheses as may be and with more, is parsed
// to the tree.
func TestTreesBack(t *testing.T) {
	r := &trees{Rand: seeded()}
	for round := range 12000 {
		r.more = round%2 == 1
		p := r.program()
		if !nodes.Right(p) {
			t.Fatalf("%s is not right", brief(sayProgram(p)))
		}
		var text strings.Builder
		for _, item := range p.Items {
			text.WriteString(r.itemText(item) + pickOf(r, "", "\n", ";"))
		}
		back, fault := Parse(text.String())
		if fault.Err != api.OK || !same(unlined(back), unlined(p)) {
			t.Fatalf("Parse(%q) = %s, %+v; want %s", text.String(), sayProgram(back), fault, sayProgram(p))
		}
	}
}

// P14.1: the same of expressions by themselves, as wide as many kids make them.
func TestExprsBack(t *testing.T) {
	r := &trees{Rand: seeded()}
	for round := range 30000 {
		r.more = round%3 == 1
		e := r.expr(2 + r.Intn(4))
		text := r.text(e, ofExpr)
		back, fault := Parse(text)
		want := api.Program{Items: []api.Item{{Kind: api.IRule, Exprs: []api.Expr{e}}}}
		if fault.Err != api.OK || !same(unlined(back), want) {
			t.Fatalf("Parse(%q) = %s, %+v; want %s", text, sayProgram(back), fault, sayExpr(e))
		}
	}
}
