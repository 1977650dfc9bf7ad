package show

import (
	"strings"

	"winnower/api"
)

// writer writes lines.
type writer struct {
	out   text
	level int
}

// line writes a line of some texts, one behind the other.
func (w *writer) line(texts ...string) {
	w.out.put(strings.Repeat("\t", w.level))
	w.out.put(texts...)
	w.out.put("\n")
}

// apart tells what is told to a text of its own, which is to be part of a line.
func (w *writer) apart(tell func(t *text)) string {
	t := &text{long: w.out.long}
	tell(t)
	w.out.long = t.long
	return t.out.String()
}

// plain tells expressions without parentheses around them.
func (w *writer) plain(exprs []api.Expr) string {
	return w.apart(func(t *text) {
		t.row(len(exprs), func(at int) { t.expr(&exprs[at]) })
	})
}

// list tells expressions as kids.
func (w *writer) list(exprs []api.Expr) string {
	return w.apart(func(t *text) { t.row(len(exprs), t.kids(exprs)) })
}

// body writes statements, one level deeper.
func (w *writer) body(stmts []api.Stmt) {
	w.level++
	for i := range stmts {
		w.stmt(&stmts[i])
	}
	w.level--
}

// braced writes a body between a line of some texts, which opens a brace, and the
// line that closes it.
func (w *writer) braced(stmts []api.Stmt, head ...string) {
	w.line(head...)
	w.body(stmts)
	w.line("}")
}

func (w *writer) stmt(s *api.Stmt) {
	switch s.Kind {
	case api.SExpr:
		w.line(w.plain(s.Exprs))
	case api.SPrint:
		w.line("print", w.printed(s))
	case api.SPrintf:
		w.line("printf", w.printed(s))
	case api.SIf:
		w.ifStmt(s)
	case api.SWhile:
		w.braced(s.Body, "while (", w.plain(s.Exprs), ") {")
	case api.SDo:
		w.line("do {")
		w.body(s.Body)
		w.line("} while (", w.plain(s.Exprs), ")")
	case api.SFor:
		w.forStmt(s)
	case api.SForIn:
		w.braced(s.Body, "for (", s.S, " in ", s.Exprs[0].S, ") {")
	case api.SBreak:
		w.line("break")
	case api.SContinue:
		w.line("continue")
	case api.SNext:
		w.line("next")
	case api.SExit:
		w.line("exit", w.result(s.Exprs))
	case api.SReturn:
		w.line("return", w.result(s.Exprs))
	case api.SDelete:
		w.line("delete ", s.S, w.keys(s.Exprs))
	case api.SBlock:
		w.braced(s.Body, "{")
	}
}

func (w *writer) ifStmt(s *api.Stmt) {
	w.line("if (", w.plain(s.Exprs), ") {")
	w.body(s.Body)
	if len(s.Else) > 0 {
		w.line("} else {")
		w.body(s.Else)
	}
	w.line("}")
}

// What a for has, as its N has it, beside a condition.
const (
	withInit = 1
	withStep = 4
)

func (w *writer) forStmt(s *api.Stmt) {
	part := func(which, at int) string {
		if s.N&which == 0 {
			return ""
		}
		return w.plain(s.Else[at].Exprs)
	}
	first, step := part(withInit, 0), part(withStep, len(s.Else)-1)
	w.braced(s.Body, "for (", first, "; ", w.plain(s.Exprs), "; ", step, ") {")
}

// targetSigns stand ahead of where print prints to, by its N.
var targetSigns = [...]string{"", " > ", " >> ", " | "}

// printed tells what stands behind print: what is printed, and where to.
func (w *writer) printed(s *api.Stmt) string {
	exprs, to := s.Exprs, ""
	if s.N > 0 {
		last := len(exprs) - 1
		to = targetSigns[s.N] + w.list(exprs[last:])
		exprs = exprs[:last]
	}
	if len(exprs) == 0 {
		return to
	}
	return " " + w.list(exprs) + to
}

// result tells what stands behind exit and return.
func (w *writer) result(exprs []api.Expr) string {
	if len(exprs) == 0 {
		return ""
	}
	return " " + w.plain(exprs)
}

// keys tells what stands behind the name of an array.
func (w *writer) keys(exprs []api.Expr) string {
	if len(exprs) == 0 {
		return ""
	}
	return "[" + w.list(exprs) + "]"
}
