package resolve

import (
	"fmt"
	"math/rand"
	"strings"
	"testing"

	"winnower/api"
	"winnower/nodes"
)

// wild makes right programs of parts of all kinds. Of so many things one at most,
// in the mean, is at fault.
type wild struct {
	*rand.Rand
	seldom int
	params map[string]int // of the functions there are, how many they have
	own    []string       // the names of the item's parameters
}

func pick[T any](w *wild, some ...T) T {
	return some[w.Intn(len(some))]
}

func (w *wild) slips() bool {
	return w.Intn(w.seldom) == 0
}

// Names by what they are mostly used as. A function's own come more often.

func (w *wild) arrayName() string {
	switch {
	case w.slips():
		return pick(w, "NR", "FS", "f", "g", "a", "b")
	case w.Intn(2) == 0:
		for _, name := range w.own {
			if strings.HasPrefix(name, "t") && w.Intn(2) == 0 {
				return name
			}
		}
	}
	return pick(w, "t1", "t2", "t3", "u1", "u2")
}

func (w *wild) valueName() string {
	switch {
	case w.slips():
		return pick(w, "f", "g", "h", "t1", "u1")
	case w.Intn(6) == 0:
		return pick(w, specials()...)
	}
	return pick(w, "a", "b", "c", "d", "x1", "x2")
}

func (w *wild) exprs(n, levels int) []api.Expr {
	var list []api.Expr
	for range n {
		list = append(list, w.expr(levels))
	}
	return list
}

func (w *wild) lvalue(levels int) api.Expr {
	switch w.Intn(4) {
	case 0:
		return expr(api.XIndex, w.arrayName(), w.exprs(1+w.Intn(2), levels-1)...)
	case 1:
		return expr(api.XField, "", w.expr(levels-1))
	}
	return variable(w.valueName())
}

func (w *wild) leaf() api.Expr {
	switch w.Intn(8) {
	case 0:
		return number(float64(w.Intn(9)))
	case 1:
		return api.Expr{Kind: api.XStr, S: "NR"}
	case 2:
		return api.Expr{Kind: api.XRe, S: "f"}
	case 3:
		return api.Expr{Kind: api.XGetline, N: 1}
	case 4:
		return expr(api.XBuiltin, "length", variable(pick(w, w.arrayName(), w.valueName())))
	}
	return variable(w.valueName())
}

func (w *wild) expr(levels int) api.Expr {
	if levels <= 1 {
		return w.leaf()
	}
	kids := func(n int) []api.Expr { return w.exprs(n, levels-1) }
	switch kind := api.ExprKind(5 + w.Intn(19)); kind {
	case api.XIndex, api.XField:
		return w.lvalue(levels)
	case api.XAssign:
		return expr(kind, pick(w, "=", "+="), w.lvalue(levels-1), w.expr(levels-1))
	case api.XCond:
		return expr(kind, "", kids(3)...)
	case api.XOr, api.XAnd, api.XCat:
		return expr(kind, "", kids(2)...)
	case api.XNot, api.XNeg, api.XPlus:
		return expr(kind, "", kids(1)...)
	case api.XIn:
		return expr(kind, w.arrayName(), kids(1+w.Intn(2))...)
	case api.XMatch:
		return expr(kind, "~", kids(2)...)
	case api.XCmp:
		return expr(kind, "<", kids(2)...)
	case api.XBin:
		return expr(kind, "+", kids(2)...)
	case api.XPre, api.XPost:
		return expr(kind, "++", w.lvalue(levels-1))
	case api.XCall:
		return w.call(levels)
	case api.XBuiltin:
		return w.builtin(levels)
	}
	return api.Expr{Kind: api.XGetline, N: 10, Kids: []api.Expr{w.lvalue(levels - 1), w.expr(levels - 1)}}
}

// call hands names in more often than other things. Places of arrays are those
// that the parameters' names say.
func (w *wild) call(levels int) api.Expr {
	name := pick(w, "f", "g", "h")
	if w.slips() {
		name = pick(w, "none", "NR", "a", "t1")
	}
	n, ok := w.params[name]
	if !ok && !w.slips() {
		return w.leaf()
	}
	if n = w.Intn(n + 1); w.slips() {
		n += 2
	}
	var args []api.Expr
	for at := range n {
		switch {
		case at%2 == 0:
			args = append(args, variable(w.arrayName()))
		case w.Intn(3) > 0:
			args = append(args, variable(w.valueName()))
		default:
			args = append(args, w.expr(levels-1))
		}
	}
	return call(name, args...)
}

func (w *wild) builtin(levels int) api.Expr {
	counts := builtinCounts()
	name := pick(w, "length", "substr", "index", "split", "split", "sub", "gsub", "match", "sprintf", "tolower", "toupper", "int", "srand", "rand", "close", "system")
	n := counts[name][0] + w.Intn(min(counts[name][1], 4)-counts[name][0]+1)
	if w.slips() {
		n += 1 - w.Intn(3)
	}
	e := expr(api.XBuiltin, name, w.exprs(max(n, 0), levels-1)...)
	for at := range e.Kids {
		switch {
		case w.slips():
		case name == "split" && at == 1:
			e.Kids[at] = variable(w.arrayName())
		case (name == "sub" || name == "gsub") && at == 2:
			e.Kids[at] = w.lvalue(levels - 1)
		}
	}
	return e
}

func (w *wild) stmts(n, levels int, loop bool, kind api.ItemKind) []api.Stmt {
	var list []api.Stmt
	for range n {
		if levels > 0 {
			list = append(list, w.stmt(levels, loop, kind))
		}
	}
	return list
}

func (w *wild) stmt(levels int, loop bool, kind api.ItemKind) api.Stmt {
	s := api.Stmt{Kind: api.StmtKind(1 + w.Intn(15)), Line: w.Intn(1000)}
	body := func(loop bool) []api.Stmt { return w.stmts(w.Intn(3), levels-1, loop, kind) }
	switch s.Kind {
	case api.SPrint, api.SPrintf:
		s.N = w.Intn(4)
		s.Exprs = w.exprs(2+w.Intn(2), 3)
	case api.SIf:
		s.Exprs, s.Body, s.Else = w.exprs(1, 3), body(loop), body(loop)
	case api.SWhile, api.SDo:
		s.Exprs, s.Body = w.exprs(1, 3), body(true)
	case api.SFor:
		s.N = w.Intn(8)
		s.Exprs, s.Body = w.exprs(s.N>>1&1, 3), body(true)
		for range s.N&1 + s.N>>2 {
			s.Else = append(s.Else, api.Stmt{Kind: api.SExpr, Exprs: w.exprs(1, 2), Line: w.Intn(1000)})
		}
	case api.SForIn:
		s.S, s.Exprs, s.Body = w.valueName(), []api.Expr{variable(w.arrayName())}, body(true)
	case api.SBreak, api.SContinue, api.SNext, api.SReturn:
		may := map[api.StmtKind]bool{api.SBreak: loop, api.SContinue: loop, api.SNext: kind == api.IRule, api.SReturn: kind == api.IFunc}[s.Kind]
		if !may && !w.slips() {
			s.Kind = api.SExit
		}
	case api.SDelete:
		s.S, s.Exprs = w.arrayName(), w.exprs(w.Intn(3), 2)
	case api.SBlock:
		s.Body = body(loop)
	case api.SExpr:
		s.Exprs = w.exprs(1, 4)
	}
	return s
}

// function tells one whose parameters' names say by turns that they are arrays and
// values.
func (w *wild) function(name string) api.Item {
	it := api.Item{Kind: api.IFunc, Name: name}
	for at := range w.params[name] {
		param := pick(w, "t", "u") + fmt.Sprint(1+at)
		if at%2 == 1 {
			param = pick(w, "a", "b", "c", "x", "x1", "x2")
		}
		if w.slips() && w.slips() {
			param = pick(w, "NF", "f", "g", "a")
		}
		it.Params = append(it.Params, param)
	}
	if w.slips() && w.slips() {
		it.Name = pick(w, "f", "RS", "a")
	}
	return it
}

func (w *wild) program() api.Program {
	w.params = map[string]int{}
	var list []api.Item
	for _, name := range []string{"f", "g", "h"} {
		if w.Intn(4) > 0 {
			w.params[name] = w.Intn(4)
			list = append(list, w.function(name))
		}
	}
	for range 1 + w.Intn(4) {
		it := api.Item{Kind: pick(w, api.IBegin, api.IEnd, api.IRule)}
		if it.Kind == api.IRule {
			it.HasBody = true
		}
		list = append(list, it)
	}
	w.Shuffle(len(list), func(i, j int) { list[i], list[j] = list[j], list[i] })
	for i := range list {
		it := &list[i]
		w.own = it.Params
		if it.Kind == api.IRule {
			it.Exprs = w.exprs(w.Intn(3), 3)
		}
		it.Body, it.Line = w.stmts(w.Intn(4), 3, false, it.Kind), w.Intn(1000)
	}
	return api.Program{Items: list}
}

// P16.1 to P16.4: wild programs, of those without faults to those with many.
func TestWildPrograms(t *testing.T) {
	met := map[api.Errno]int{}
	arrays, params := 0, 0
	for _, seldom := range []int{10, 40, 200, 1000, 1 << 40} {
		w := &wild{Rand: seeded(), seldom: seldom}
		for range 6000 {
			p := w.program()
			got, fault := held(t, p)
			if t.Failed() {
				return
			}
			met[fault.Err]++
			for _, sym := range got.Globals {
				if sym.Array {
					arrays++
				}
			}
			for _, fn := range got.Fns {
				for _, sym := range fn.Params {
					if sym.Array {
						params++
					}
				}
			}
			if fault.Err == api.ErrTree && nodes.Right(p) {
				t.Errorf("%s is right", brief(p))
			}
		}
	}
	for _, err := range []api.Errno{api.OK, api.ErrTwice, api.ErrUse, api.ErrPlace, api.ErrCall, api.ErrCount} {
		if met[err] < 150 {
			t.Errorf("only %d have the error %d: %v", met[err], err, met)
		}
	}
	if arrays < 5000 || params < 1000 {
		t.Errorf("%d arrays, %d parameters that are arrays", arrays, params)
	}
}

// P16.3, P16.4: all programs of two functions, each of which does one of some
// things with its parameters, and of two more of them.
func TestAllSmallPrograms(t *testing.T) {
	inF := []string{"", "a[1]", "a", "b[1]", "length(a)", "g(a)", "g(b)", "f(b, a)", "f(a)", "g(1)", "x[a]", "g(x)", "b = a", "g(NR)"}
	inG := []string{"", "c[1]", "c", "f(c)", "f(x, c)", "f(c, c)", "f(c, y)", "length(c)", "x", "g(c)"}
	outside := []string{"", "x[1]", "x", "f(x)", "f(x, y)", "f(y, x)", "g(x)", "g(y)", "f(1, x)", "y[x]", "delete y", "f(NR, y)", "length(x)", "y"}
	right, wrong := 0, 0
	for _, f := range inF {
		for _, g := range inG {
			for _, one := range outside {
				for _, other := range outside {
					text := "function f(a, b) { " + f + " } { " + one + " } function g(c) { " + g + " } END { " + other + " }"
					if _, fault := held(t, parsed(t, text)); fault.Err == api.OK {
						right++
					} else {
						wrong++
					}
				}
			}
			if t.Failed() {
				return
			}
		}
	}
	if right < 5000 || wrong < 5000 {
		t.Errorf("%d are right, %d wrong", right, wrong)
	}
}

// P16.3: what names are hangs neither on the order of items nor on what they are
// called.
func TestTurnedPrograms(t *testing.T) {
	w := &wild{Rand: seeded(), seldom: 1 << 40}
	right := 0
	for range 1500 {
		p := w.program()
		got, fault := Resolve(p)
		shuffled := api.Program{Items: append([]api.Item(nil), p.Items...)}
		places := w.Perm(len(p.Items))
		for from, to := range places {
			shuffled.Items[to] = p.Items[from]
		}
		other, otherFault := held(t, shuffled)
		if fault.Err == api.OK {
			right++
			if otherFault != fault || !sameSorts(got, other, places) {
				t.Errorf("Resolve(%s) = %s, %+v; of its items in another order: %s, %+v", brief(p), say(got), fault, say(other), otherFault)
			}
		} else if otherFault.Err == api.OK {
			t.Errorf("%s has %+v; in another order it has none", brief(p), fault)
		}
	}
	if right < 500 {
		t.Errorf("only %d are right", right)
	}
}

// sameSorts says whether two tell the same but for the order, where items went to
// places.
func sameSorts(a, b api.Names, places []int) bool {
	if len(a.Globals) != len(b.Globals) || len(a.Fns) != len(b.Fns) {
		return false
	}
	globals, fns := map[string]bool{}, map[string]string{}
	for _, sym := range b.Globals {
		globals[saySym(sym)] = true
	}
	for _, fn := range b.Fns {
		fns[fn.Name] = sayFn(fn)
	}
	for _, sym := range a.Globals {
		if !globals[saySym(sym)] {
			return false
		}
	}
	for _, fn := range a.Fns {
		fn.Item = places[fn.Item]
		if fns[fn.Name] != sayFn(fn) {
			return false
		}
	}
	return true
}
