package nodes

import (
	"math"
	"math/rand"
	"regexp"
	"slices"
	"strings"
	"testing"

	"winnower/api"
)

// The chapter's words, kind by kind.

var (
	nameForm    = regexp.MustCompile(`^[A-Za-z_][A-Za-z0-9_]*$`)
	patternForm = regexp.MustCompile(`^(?s:[^\\\n]|\\[^/\n])*$`)
)

func modelName(s string) bool {
	return len(s) <= mostSource && !strings.Contains(s, "\n") && nameForm.MatchString(s) && !slices.Contains(builtinWords(), s) && !slices.Contains(otherWords(), s)
}

func modelPattern(s string) bool {
	// The library's patterns go by runes: bytes from 128 on are put as one that is
	// like them here.
	low := strings.Map(func(r rune) rune { return min(r, 127) }, s)
	return !strings.Contains(s, "\n") && patternForm.MatchString(low)
}

func modelLvalue(e api.Expr) bool {
	switch e.Kind {
	case api.XVar, api.XIndex, api.XField:
		return true
	}
	return false
}

// modelExpr says whether an expression is right, however deep it is nested.
func modelExpr(e api.Expr) bool {
	for _, kid := range e.Kids {
		if !modelExpr(kid) {
			return false
		}
	}
	kids, noS, noN := len(e.Kids), e.S == "", e.N == 0
	switch e.Kind {
	case api.XNum:
		f := math.Float64frombits(e.N)
		return kids == 0 && noS && f >= 0 && !math.Signbit(f) && !math.IsInf(f, 0)
	case api.XStr:
		return kids == 0 && noN
	case api.XRe:
		return kids == 0 && noN && modelPattern(e.S)
	case api.XVar:
		return kids == 0 && noN && modelName(e.S)
	case api.XIndex, api.XIn:
		return kids > 0 && noN && modelName(e.S)
	case api.XField, api.XNot, api.XNeg, api.XPlus:
		return kids == 1 && noN && noS
	case api.XCond:
		return kids == 3 && noN && noS
	case api.XOr, api.XAnd, api.XCat:
		return kids == 2 && noN && noS
	case api.XAssign:
		return kids == 2 && noN && slices.Contains(signsOf(e.Kind), e.S) && modelLvalue(e.Kids[0])
	case api.XMatch, api.XCmp, api.XBin:
		return kids == 2 && noN && slices.Contains(signsOf(e.Kind), e.S)
	case api.XPre, api.XPost:
		return kids == 1 && noN && slices.Contains(signsOf(e.Kind), e.S) && modelLvalue(e.Kids[0])
	case api.XCall:
		return noN && modelName(e.S)
	case api.XBuiltin:
		return noN && slices.Contains(builtinWords(), e.S)
	case api.XGetline:
		return noS && modelGetline(e)
	}
	return false
}

func modelGetline(e api.Expr) bool {
	kids := len(e.Kids)
	switch e.N {
	case 1:
		return kids == 0
	case 2, 3:
		return kids == 1
	case 9:
		return kids == 1 && modelLvalue(e.Kids[0])
	case 10, 11:
		return kids == 2 && modelLvalue(e.Kids[0])
	}
	return false
}

func modelStmt(s api.Stmt) bool {
	for _, e := range s.Exprs {
		if !modelExpr(e) {
			return false
		}
	}
	for _, kid := range append(slices.Clone(s.Body), s.Else...) {
		if !modelStmt(kid) {
			return false
		}
	}
	exprs, noN, noS, noBody, noElse := len(s.Exprs), s.N == 0, s.S == "", len(s.Body) == 0, len(s.Else) == 0
	switch s.Kind {
	case api.SExpr:
		return exprs == 1 && noN && noS && noBody && noElse
	case api.SPrint:
		return noS && noBody && noElse && (s.N == 0 || s.N >= 1 && s.N <= 3 && exprs >= 1)
	case api.SPrintf:
		return noS && noBody && noElse && (s.N == 0 && exprs >= 1 || s.N >= 1 && s.N <= 3 && exprs >= 2)
	case api.SIf:
		return exprs == 1 && noN && noS
	case api.SWhile, api.SDo:
		return exprs == 1 && noN && noS && noElse
	case api.SFor:
		return noS && modelFor(s)
	case api.SForIn:
		return exprs == 1 && noN && modelName(s.S) && noElse && s.Exprs[0].Kind == api.XVar
	case api.SBreak, api.SContinue, api.SNext:
		return exprs == 0 && noN && noS && noBody && noElse
	case api.SExit, api.SReturn:
		return exprs <= 1 && noN && noS && noBody && noElse
	case api.SDelete:
		return noN && modelName(s.S) && noBody && noElse
	case api.SBlock:
		return exprs == 0 && noN && noS && noElse
	}
	return false
}

func modelFor(s api.Stmt) bool {
	if s.N < 0 || s.N > 7 {
		return false
	}
	parts := 0
	if s.N == 1 || s.N == 3 || s.N == 5 || s.N == 7 {
		parts++
	}
	if s.N >= 4 {
		parts++
	}
	condition := 0
	if s.N == 2 || s.N == 3 || s.N == 6 || s.N == 7 {
		condition++
	}
	for _, kid := range s.Else {
		if kid.Kind != api.SExpr {
			return false
		}
	}
	return len(s.Exprs) == condition && len(s.Else) == parts
}

func modelItem(it api.Item) bool {
	for _, e := range it.Exprs {
		if !modelExpr(e) {
			return false
		}
	}
	for _, s := range it.Body {
		if !modelStmt(s) {
			return false
		}
	}
	switch it.Kind {
	case api.IBegin, api.IEnd:
		return !it.HasBody && it.Name == "" && len(it.Params) == 0 && len(it.Exprs) == 0
	case api.IRule:
		if it.Name != "" || len(it.Params) != 0 || len(it.Exprs) > 2 {
			return false
		}
		return it.HasBody || len(it.Exprs) >= 1 && len(it.Body) == 0
	case api.IFunc:
		for _, name := range it.Params {
			if !modelName(name) {
				return false
			}
		}
		return !it.HasBody && modelName(it.Name) && len(it.Params) <= mostParams && len(it.Exprs) == 0
	}
	return false
}

// modelExprs and modelStmts tell how many parts there are, and how deep they go,
// of lists that are at a level.

func modelExprs(exprs []api.Expr, level int) (size, depth int) {
	if level > mostNest+1 || len(exprs) == 0 {
		return 0, 0
	}
	size, depth = len(exprs), level
	for _, e := range exprs {
		n, d := modelExprs(e.Kids, level+1)
		size, depth = size+n, max(depth, d)
	}
	return size, depth
}

func modelStmts(stmts []api.Stmt, level int) (size, depth int) {
	if level > mostNest+1 || len(stmts) == 0 {
		return 0, 0
	}
	size, depth = len(stmts), level
	for _, s := range stmts {
		n, d := modelExprs(s.Exprs, level+1)
		m, e := modelStmts(s.Body, level+1)
		o, f := modelStmts(s.Else, level+1)
		size, depth = size+n+m+o, max(depth, d, e, f)
	}
	return size, depth
}

func modelSize(p api.Program) (size, depth int) {
	for _, it := range p.Items {
		n, d := modelExprs(it.Exprs, 1)
		m, e := modelStmts(it.Body, 1)
		size, depth = size+n+m, max(depth, d, e)
	}
	return size, depth
}

func modelRight(p api.Program) bool {
	for _, it := range p.Items {
		if !modelItem(it) {
			return false
		}
	}
	size, depth := modelSize(p)
	return size <= mostNodes && depth <= mostNest
}

// modelWhole says whether an expression is right, and not nested too deep.
func modelWhole(e api.Expr) bool {
	_, depth := modelExprs([]api.Expr{e}, 1)
	return depth <= mostNest && modelExpr(e)
}

// wild makes programs, of parts that are right at first.
type wild struct{ *rand.Rand }

func pick[T any](w wild, some []T) T {
	return some[w.Intn(len(some))]
}

func (w wild) exprs(n, levels int) []api.Expr {
	var list []api.Expr
	for range n {
		list = append(list, w.expr(levels))
	}
	return list
}

func (w wild) lvalue(levels int) api.Expr {
	kids := w.exprs(1, levels-1)
	return pick(w, []api.Expr{variable(pick(w, goodNames())), expr(api.XIndex, pick(w, goodNames()), kids...), expr(api.XField, "", kids...)})
}

func (w wild) expr(levels int) api.Expr {
	kind := api.ExprKind(1 + w.Intn(23))
	if levels <= 1 {
		kind = pick(w, []api.ExprKind{api.XNum, api.XStr, api.XRe, api.XVar, api.XCall, api.XBuiltin, api.XGetline})
	}
	e := api.Expr{Kind: kind}
	any := func() int { return min(w.Intn(4), max(levels-1, 0)) }
	kids := func(n int) { e.Kids = w.exprs(n, levels-1) }
	switch kind {
	case api.XNum:
		e.N = w.Uint64() % (0x7ff << 52)
	case api.XStr:
		e.S = pick(w, append(badNames(), goodNames()...))
	case api.XRe:
		e.S = pick(w, []string{"", "a", "/", "\\\\", "[\\n]", "\\.\\\\/", "\xff"})
	case api.XVar:
		e.S = pick(w, goodNames())
	case api.XIndex, api.XIn:
		e.S = pick(w, goodNames())
		kids(1 + w.Intn(3))
	case api.XField, api.XNot, api.XNeg, api.XPlus:
		kids(1)
	case api.XCond:
		kids(3)
	case api.XOr, api.XAnd, api.XCat:
		kids(2)
	case api.XMatch, api.XCmp, api.XBin, api.XAssign:
		e.S = pick(w, signsOf(kind))
		kids(2)
		if kind == api.XAssign {
			e.Kids[0] = w.lvalue(levels - 1)
		}
	case api.XPre, api.XPost:
		e.S = pick(w, signsOf(kind))
		e.Kids = []api.Expr{w.lvalue(levels - 1)}
	case api.XCall:
		e.S = pick(w, goodNames())
		kids(any())
	case api.XBuiltin:
		e.S = pick(w, builtinWords())
		kids(any())
	case api.XGetline:
		e.N = 1
		if levels > 1 {
			e.N = pick(w, []uint64{1, 2, 3, 9, 10, 11})
		}
		if e.N >= 8 {
			e.Kids = append(e.Kids, w.lvalue(levels-1))
		}
		if e.N&7 > 1 {
			e.Kids = append(e.Kids, w.expr(levels-1))
		}
	}
	return e
}

func (w wild) stmts(n, levels int) []api.Stmt {
	if levels < 1 {
		return nil
	}
	var list []api.Stmt
	for range n {
		list = append(list, w.stmt(levels))
	}
	return list
}

func (w wild) stmt(levels int) api.Stmt {
	s := api.Stmt{Kind: api.StmtKind(1 + w.Intn(15)), Line: w.Intn(9) - 3}
	body := func() []api.Stmt { return w.stmts(w.Intn(3), levels-1) }
	switch s.Kind {
	case api.SExpr:
		s.Exprs = w.exprs(1, levels-1)
	case api.SPrint:
		s.N = w.Intn(4)
		s.Exprs = w.exprs(1+w.Intn(3), levels-1)
	case api.SPrintf:
		s.N = w.Intn(4)
		s.Exprs = w.exprs(2+w.Intn(2), levels-1)
	case api.SIf:
		s.Exprs, s.Body, s.Else = w.exprs(1, levels-1), body(), body()
	case api.SWhile, api.SDo:
		s.Exprs, s.Body = w.exprs(1, levels-1), body()
	case api.SFor:
		s.N = w.Intn(8)
		s.Exprs = w.exprs(s.N>>1&1, levels-1)
		s.Body = body()
		for range s.N&1 + s.N>>2 {
			s.Else = append(s.Else, exprStmt(w.expr(levels-2)))
		}
	case api.SForIn:
		s.S, s.Exprs, s.Body = pick(w, goodNames()), []api.Expr{variable(pick(w, goodNames()))}, body()
	case api.SExit, api.SReturn:
		s.Exprs = w.exprs(w.Intn(2), levels-1)
	case api.SDelete:
		s.S, s.Exprs = pick(w, goodNames()), w.exprs(w.Intn(3), levels-1)
	case api.SBlock:
		s.Body = body()
	}
	return s
}

func (w wild) program() api.Program {
	var p api.Program
	for range 1 + w.Intn(4) {
		it := api.Item{Kind: api.ItemKind(1 + w.Intn(4)), Line: w.Intn(9) - 3, Body: w.stmts(w.Intn(4), 5)}
		switch it.Kind {
		case api.IRule:
			it.Exprs = w.exprs(w.Intn(3), 4)
			it.HasBody = len(it.Exprs) == 0 || w.Intn(2) == 0
			if !it.HasBody {
				it.Body = nil
			}
		case api.IFunc:
			it.Name = pick(w, goodNames())
			for range w.Intn(4) {
				it.Params = append(it.Params, pick(w, goodNames()))
			}
		}
		p.Items = append(p.Items, it)
	}
	return p
}

// partsOf tells all parts of lists, so that one of them can be turned.
func partsOf(exprs []api.Expr, stmts []api.Stmt) (es []*api.Expr, ss []*api.Stmt) {
	more := func(exprs []api.Expr, stmts []api.Stmt) {
		e, s := partsOf(exprs, stmts)
		es, ss = append(es, e...), append(ss, s...)
	}
	for i := range exprs {
		es = append(es, &exprs[i])
		more(exprs[i].Kids, nil)
	}
	for i := range stmts {
		ss = append(ss, &stmts[i])
		more(stmts[i].Exprs, stmts[i].Body)
		more(nil, stmts[i].Else)
	}
	return es, ss
}

func (w wild) text() string {
	some := append(append(goodNames(), "", "+", "==", "~", "=", "++", "a\\/", "a\nb", "\\"), badNames()...)
	return pick(w, some)
}

func (w wild) turnExpr(e *api.Expr) {
	switch w.Intn(5) {
	case 0:
		e.Kind = api.ExprKind(w.Intn(25))
	case 1:
		e.S = w.text()
	case 2:
		e.N = pick(w, []uint64{0, 1, 2, 3, 4, 8, 9, 10, 11, 12, 1 << 63, 0x7ff << 52, api.NaN})
	case 3:
		e.Kids = w.exprs(w.Intn(4), 1)
	case 4:
		e.Kids = append(slices.Clone(e.Kids), w.expr(2))
	}
}

func (w wild) turnStmt(s *api.Stmt) {
	switch w.Intn(6) {
	case 0:
		s.Kind = api.StmtKind(w.Intn(17))
	case 1:
		s.S = w.text()
	case 2:
		s.N = w.Intn(10) - 1
	case 3:
		s.Exprs = w.exprs(w.Intn(4), 2)
	case 4:
		s.Body = w.stmts(w.Intn(3), 2)
	case 5:
		s.Else = w.stmts(w.Intn(3), 2)
	}
}

func (w wild) turnItem(it *api.Item) {
	switch w.Intn(6) {
	case 0:
		it.Kind = api.ItemKind(w.Intn(6))
	case 1:
		it.Name = w.text()
	case 2:
		it.Params = append(it.Params, w.text())
	case 3:
		it.Exprs = w.exprs(w.Intn(4), 2)
	case 4:
		it.HasBody = !it.HasBody
	case 5:
		it.Body = w.stmts(w.Intn(3), 2)
	}
}

// turn turns a thing of an item, and says whether there was one to turn.
func (w wild) turn(it *api.Item) bool {
	es, ss := partsOf(it.Exprs, it.Body)
	switch w.Intn(3) {
	case 0:
		if len(es) > 0 {
			w.turnExpr(pick(w, es))
		}
		return len(es) > 0
	case 1:
		if len(ss) > 0 {
			w.turnStmt(pick(w, ss))
		}
		return len(ss) > 0
	}
	w.turnItem(it)
	return true
}

// P13.1: wild programs that are right, and the same with one thing turned and
// with two.
func TestWildPrograms(t *testing.T) {
	w := wild{seeded()}
	right := 0
	const rounds = 6000
	for range rounds {
		p := w.program()
		if !modelRight(p) {
			t.Fatalf("the model has %s wrong", brief(p))
		}
		held(t, p)
		for range 2 {
			for !w.turn(&p.Items[w.Intn(len(p.Items))]) {
			}
			held(t, p)
			if modelRight(p) {
				right++
			}
		}
		if t.Failed() {
			return
		}
	}
	// Of what is turned some stays right, and most does not.
	if right < rounds/10 || right > rounds {
		t.Errorf("%d of %d turned programs are right", right, 2*rounds)
	}
}
