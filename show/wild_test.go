package show

import (
	"math/rand"
	"testing"

	"winnower/api"
	"winnower/nodes"
	"winnower/parse"
)

// wild makes programs of parts of all kinds, right ones.
type wild struct{ *rand.Rand }

func pick[T any](w wild, some ...T) T {
	return some[w.Intn(len(some))]
}

func (w wild) name() string {
	return pick(w, "a", "b", "t", "NF", "x1", "_", "e5", "inn", "getlines")
}

func (w wild) exprs(n, levels int) []api.Expr {
	var list []api.Expr
	for range n {
		list = append(list, w.expr(levels))
	}
	return list
}

func (w wild) lvalue(levels int) api.Expr {
	switch w.Intn(3) {
	case 0:
		return variable(w.name())
	case 1:
		return expr(api.XIndex, w.name(), w.exprs(1+w.Intn(2), levels-1)...)
	}
	return expr(api.XField, "", w.expr(levels-1))
}

func (w wild) leaf() api.Expr {
	switch w.Intn(7) {
	case 0:
		return api.Expr{Kind: api.XNum, N: w.Uint64() % (0x7ff << 52)}
	case 1:
		return number(float64(w.Intn(1000)) / 8)
	case 2:
		return quote(string(w.bytes()))
	case 3:
		s := string(w.bytes())
		if e := pattern(s); nodes.Expr(e) {
			return e
		}
		return pattern(pick(w, "", "=", "/", `\\`, `\\/`, "=a/b", "a+", "[/]"))
	case 4:
		return getline(1)
	case 5:
		return expr(api.XBuiltin, pick(w, builtinWords()...))
	}
	return variable(w.name())
}

// bytes tells some, of all kinds, but more often those that are signs somewhere.
func (w wild) bytes() []byte {
	var s []byte
	for range w.Intn(6) {
		if w.Intn(3) == 0 {
			s = append(s, byte(w.Intn(256)))
		} else {
			s = append(s, pick(w, []byte("\\\\\"\n/=0179nx# {}\x01\xff")...))
		}
	}
	return s
}

func (w wild) expr(levels int) api.Expr {
	if levels <= 1 {
		return w.leaf()
	}
	kids := func(n int) []api.Expr { return w.exprs(n, levels-1) }
	switch kind := api.ExprKind(4 + w.Intn(20)); kind {
	case api.XVar:
		return w.leaf()
	case api.XIndex, api.XField:
		return w.lvalue(levels)
	case api.XAssign:
		return expr(kind, pick(w, signsOf(kind)...), w.lvalue(levels-1), w.expr(levels-1))
	case api.XCond:
		return expr(kind, "", kids(3)...)
	case api.XOr, api.XAnd, api.XCat:
		return expr(kind, "", kids(2)...)
	case api.XNot, api.XNeg, api.XPlus:
		return expr(kind, "", kids(1)...)
	case api.XIn:
		return expr(kind, w.name(), kids(1+w.Intn(3))...)
	case api.XMatch, api.XCmp, api.XBin:
		return expr(kind, pick(w, signsOf(kind)...), kids(2)...)
	case api.XPre, api.XPost:
		return expr(kind, pick(w, signsOf(kind)...), w.lvalue(levels-1))
	case api.XCall:
		return expr(kind, w.name(), kids(w.Intn(4))...)
	case api.XBuiltin:
		return expr(kind, pick(w, builtinWords()...), kids(w.Intn(4))...)
	}
	e := getline(pick[uint64](w, 1, 2, 3, 9, 10, 11))
	if e.N > 8 {
		e.Kids = append(e.Kids, w.lvalue(levels-1))
	}
	if e.N&7 > 1 {
		e.Kids = append(e.Kids, w.expr(levels-1))
	}
	return e
}

func (w wild) stmts(n, levels int) []api.Stmt {
	var list []api.Stmt
	for range n {
		if levels > 0 {
			list = append(list, w.stmt(levels))
		}
	}
	return list
}

func (w wild) stmt(levels int) api.Stmt {
	s := api.Stmt{Kind: api.StmtKind(1 + w.Intn(15)), Line: w.Intn(9)}
	body := func() []api.Stmt { return w.stmts(w.Intn(4), levels-1) }
	switch s.Kind {
	case api.SExpr:
		s.Exprs = w.exprs(1, 4)
	case api.SPrint, api.SPrintf:
		s.N = w.Intn(4)
		least := min(s.N, 1)
		if s.Kind == api.SPrintf {
			least++
		}
		s.Exprs = w.exprs(least+w.Intn(3), 3)
	case api.SIf:
		s.Exprs, s.Body, s.Else = w.exprs(1, 3), body(), body()
	case api.SWhile, api.SDo:
		s.Exprs, s.Body = w.exprs(1, 3), body()
	case api.SFor:
		s.N = w.Intn(8)
		s.Exprs, s.Body = w.exprs(s.N>>1&1, 3), body()
		for range s.N&1 + s.N>>2 {
			s.Else = append(s.Else, bare(w.expr(2)))
		}
	case api.SForIn:
		s.S, s.Exprs, s.Body = w.name(), names(w.name()), body()
	case api.SExit, api.SReturn:
		s.Exprs = w.exprs(w.Intn(2), 3)
	case api.SDelete:
		s.S, s.Exprs = w.name(), w.exprs(w.Intn(3), 2)
	case api.SBlock:
		s.Body = body()
	}
	return s
}

func (w wild) program() api.Program {
	var p api.Program
	for range 1 + w.Intn(4) {
		it := api.Item{Kind: api.ItemKind(1 + w.Intn(4)), Body: w.stmts(w.Intn(4), 1+w.Intn(4)), Line: w.Intn(9)}
		switch it.Kind {
		case api.IRule:
			it.Exprs = w.exprs(w.Intn(3), 1+w.Intn(5))
			if it.HasBody = len(it.Exprs) == 0 || w.Intn(2) == 0; !it.HasBody {
				it.Body = nil
			}
		case api.IFunc:
			it.Name = w.name()
			for range w.Intn(4) {
				it.Params = append(it.Params, w.name())
			}
		}
		p.Items = append(p.Items, it)
	}
	return p
}

// P15.1, P15.2: wild programs.
func TestWildPrograms(t *testing.T) {
	w := wild{seeded()}
	for range 8000 {
		p := w.program()
		if !nodes.Right(p) {
			t.Fatalf("%s is not right", brief(p))
		}
		held(t, p)
		if t.Failed() {
			return
		}
	}
}

// P15.1, P15.2: wild expressions by themselves.
func TestWildExprs(t *testing.T) {
	w := wild{seeded()}
	for range 20000 {
		e := w.expr(1 + w.Intn(6))
		text, err := Expr(e)
		want, wantErr := modelWhole(e)
		if text != want || err != wantErr {
			t.Fatalf("Expr(%s) = %s, %d; want %s, %d", brief(e), brief(text), err, brief(want), wantErr)
		}
		if err != api.OK {
			continue
		}
		back, fault := parse.Parse(text)
		if fault.Err != api.OK || !same(back, items(rule(e))) {
			t.Fatalf("Parse(%s) = %s, %+v; want %s", brief(text), brief(back), fault, brief(e))
		}
	}
}

// turn makes one thing of a program another.
func (w wild) turn(p api.Program) {
	var exprs []*api.Expr
	var stmts []*api.Stmt
	var within func(list []api.Expr)
	within = func(list []api.Expr) {
		for i := range list {
			exprs = append(exprs, &list[i])
			within(list[i].Kids)
		}
	}
	var body func(list []api.Stmt)
	body = func(list []api.Stmt) {
		for i := range list {
			stmts = append(stmts, &list[i])
			within(list[i].Exprs)
			body(list[i].Body)
			body(list[i].Else)
		}
	}
	for _, it := range p.Items {
		within(it.Exprs)
		body(it.Body)
	}
	switch {
	case len(exprs) > 0 && w.Intn(2) == 0:
		w.turnExpr(pick(w, exprs...), exprs)
	case len(stmts) > 0 && w.Intn(4) > 0:
		w.turnStmt(pick(w, stmts...))
	default:
		it := &p.Items[w.Intn(len(p.Items))]
		it.Kind, it.HasBody = api.ItemKind(w.Intn(6)), w.Intn(2) == 0
	}
}

func (w wild) turnExpr(e *api.Expr, others []*api.Expr) {
	switch w.Intn(5) {
	case 0:
		e.Kind = api.ExprKind(w.Intn(25))
	case 1:
		e.S = pick(w, "", "a", "in", "+", "++", "=", "<", "~", `\`, "/", "length")
	case 2:
		e.N = uint64(w.Intn(13))
	case 3:
		e.Kids = e.Kids[:w.Intn(len(e.Kids)+1)]
	case 4:
		// A leaf, so that nothing comes to stand within itself.
		if other := pick(w, others...); len(other.Kids) == 0 {
			*e = *other
		}
	}
}

func (w wild) turnStmt(s *api.Stmt) {
	switch w.Intn(5) {
	case 0:
		s.Kind = api.StmtKind(w.Intn(17))
	case 1:
		s.S = pick(w, "", "a", "in")
	case 2:
		s.N = w.Intn(9) - 1
	case 3:
		s.Exprs = w.exprs(w.Intn(3), 2)
	case 4:
		s.Body, s.Else = s.Else, s.Body
	}
}

// P15.1: the same with something turned: some are not right any more.
func TestTurnedPrograms(t *testing.T) {
	w := wild{seeded()}
	right, wrong := 0, 0
	for range 20000 {
		p := w.program()
		w.turn(p)
		if held(t, p); nodes.Right(p) {
			right++
		} else {
			wrong++
		}
		if t.Failed() {
			return
		}
	}
	if right < 2000 || wrong < 5000 {
		t.Errorf("%d are right, %d wrong", right, wrong)
	}
}
