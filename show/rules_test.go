package show

import (
	"slices"
	"strings"
	"sync"
	"testing"
	"unsafe"

	"winnower/api"
)

// R1, R2: what has nothing, and what is nothing.
func TestNothing(t *testing.T) {
	writes(t, "", api.Program{})
	writes(t, "", api.Program{Items: []api.Item{}})
	exprIsNot(t, api.ErrTree, api.Expr{})
	isNot(t, api.ErrTree, items(api.Item{}))
	isNot(t, api.ErrTree, begin(api.Stmt{}))
	isNot(t, api.ErrTree, begin(bare(api.Expr{})))
}

// roomy tells a list with room behind its end in which something stands.
func roomy[T any](list []T, behind T) []T {
	more := append(slices.Clone(list), behind, behind)
	return more[:len(list)]
}

func roomyExprs(exprs []api.Expr) []api.Expr {
	exprs = roomy(exprs, variable("behind"))
	for i := range exprs {
		exprs[i].Kids = roomyExprs(exprs[i].Kids)
	}
	return exprs
}

func roomyStmts(stmts []api.Stmt) []api.Stmt {
	stmts = roomy(stmts, api.Stmt{Kind: api.SNext, Line: 77})
	for i := range stmts {
		stmts[i].Exprs = roomyExprs(stmts[i].Exprs)
		stmts[i].Body = roomyStmts(stmts[i].Body)
		stmts[i].Else = roomyStmts(stmts[i].Else)
	}
	return stmts
}

// roomyProgram tells the same program with such lists everywhere: where it has
// none there are lists of no elements.
func roomyProgram(p api.Program) api.Program {
	p.Items = roomy(p.Items, api.Item{Kind: api.IEnd, Line: 78})
	for i := range p.Items {
		p.Items[i].Params = roomy(p.Items[i].Params, "behind")
		p.Items[i].Exprs = roomyExprs(p.Items[i].Exprs)
		p.Items[i].Body = roomyStmts(p.Items[i].Body)
	}
	return p
}

// R3, R6: what is handed in is as it was, its spare room too, and a list of no
// elements is as none.
func TestHandedIn(t *testing.T) {
	w := wild{seeded()}
	programs := []api.Program{items()}
	for _, c := range itemCases() {
		programs = append(programs, items(c.it))
	}
	for _, c := range exprCases() {
		programs = append(programs, items(rule(c.e)), begin(bare(c.e), printed(api.SPrint, 1, c.e, c.e)))
		roomyTells(t, c.text, c.e)
	}
	for _, e := range wrongExprs() {
		programs = append(programs, items(rule(e)))
	}
	for _, s := range wrongStmts() {
		programs = append(programs, begin(s, s))
	}
	programs = append(programs, begin(bare(quoteOf(mostSource)), stmt(api.SNext)), begin(stmt(api.SNext), bare(doubled(11, quoteOf(100)))))
	for range 1000 {
		programs = append(programs, w.program())
	}
	for _, p := range programs {
		text, err := Show(p)
		more := roomyProgram(p)
		held(t, more)
		if again, errAgain := Show(more); again != text || errAgain != err {
			t.Errorf("Show(%s) = %s, %d; with room behind its lists %s, %d", brief(p), brief(text), err, brief(again), errAgain)
		}
	}
}

func roomyTells(t *testing.T, want string, e api.Expr) {
	t.Helper()
	tells(t, want, roomyExprs([]api.Expr{e})[0])
}

// R3: what is told is new memory.
func TestNewMemory(t *testing.T) {
	name := strings.Repeat("n", 1000)
	for _, e := range []api.Expr{variable(name), expr(api.XCall, name), expr(api.XIndex, name, variable(name)), quote(name), pattern(name)} {
		text, err := Expr(e)
		if at := strings.Index(text, name); err != api.OK || at < 0 || unsafe.StringData(text[at:]) == unsafe.StringData(name) {
			t.Errorf("Expr of kind %d shares memory with it, or has %d", e.Kind, err)
		}
		shown, err := Show(items(rule(e)))
		if at := strings.Index(shown, name); err != api.OK || at < 0 || unsafe.StringData(shown[at:]) == unsafe.StringData(name) {
			t.Errorf("Show of kind %d shares memory with it, or has %d", e.Kind, err)
		}
	}
}

// R4: what is told hangs on what is handed in alone: not on what was told before,
// nor on what is told at the same time.
func TestSameAnswers(t *testing.T) {
	w := wild{seeded()}
	var programs []api.Program
	var texts []string
	for range 300 {
		p := w.program()
		text, _ := Show(p)
		programs, texts = append(programs, p), append(texts, text)
	}
	great := doubled(40, variable("v"))
	var all sync.WaitGroup
	for worker := range 4 {
		all.Go(func() {
			for i := range programs {
				at := (i*(2*worker+1) + worker) % len(programs)
				if _, err := Expr(great); err != api.ErrLong {
					t.Error(err)
				}
				if _, err := Show(items(api.Item{})); err != api.ErrTree {
					t.Error(err)
				}
				if text, _ := Show(programs[at]); text != texts[at] {
					t.Errorf("Show(%s) = %s; want %s", brief(programs[at]), brief(text), brief(texts[at]))
				}
			}
		})
	}
	all.Wait()
}
