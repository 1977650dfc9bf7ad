package resolve

import (
	"fmt"
	"reflect"
	"slices"
	"strings"
	"sync"
	"testing"
	"unsafe"

	"winnower/api"
)

// nest tells an expression within so many others.
func nest(levels int, inner api.Expr, around func(e api.Expr) api.Expr) api.Expr {
	for range levels {
		inner = around(inner)
	}
	return inner
}

// arounds are expressions around one kid, without a fault of their own where f is
// a function of a parameter.
func arounds() []func(e api.Expr) api.Expr {
	one := number(1)
	return []func(e api.Expr) api.Expr{
		func(e api.Expr) api.Expr { return expr(api.XNot, "", e) },
		func(e api.Expr) api.Expr { return expr(api.XIndex, "t", e) },
		func(e api.Expr) api.Expr { return expr(api.XIn, "t", one, e) },
		func(e api.Expr) api.Expr { return expr(api.XField, "", e) },
		func(e api.Expr) api.Expr { return expr(api.XCond, "", one, e, one) },
		func(e api.Expr) api.Expr { return expr(api.XAssign, "=", variable("v"), e) },
		func(e api.Expr) api.Expr { return expr(api.XCat, "", one, e) },
		func(e api.Expr) api.Expr { return call("f", e) },
		func(e api.Expr) api.Expr { return expr(api.XBuiltin, "sprintf", one, e) },
		func(e api.Expr) api.Expr { return expr(api.XBuiltin, "split", e, variable("t")) },
		func(e api.Expr) api.Expr { return api.Expr{Kind: api.XGetline, N: 2, Kids: []api.Expr{e}} },
	}
}

// R1: expressions as deep as they may be: what is at their end counts, and one
// level more is no right tree.
func TestDeepExprs(t *testing.T) {
	f := function("f", []string{"a"})
	for i, around := range arounds() {
		for levels := range mostNest {
			got, fault := held(t, items(api.Item{Kind: api.IRule, Exprs: []api.Expr{nest(levels, variable("x"), around)}, Line: 4}, f))
			if fault != (api.Fault{}) || !slices.Contains(got.Globals, api.Sym{Name: "x"}) {
				t.Errorf("%d levels of %d: %s, %+v", levels, i, say(got), fault)
			}
			if levels > 0 {
				treeFaulty(t, api.ErrCall, 4, items(api.Item{Kind: api.IRule, Exprs: []api.Expr{nest(levels, call("none"), around)}, Line: 4}, f))
				treeFaulty(t, api.ErrUse, 4, items(api.Item{Kind: api.IRule, Exprs: []api.Expr{nest(levels, variable("f"), around)}, Line: 4}, f))
			}
		}
		treeFaulty(t, api.ErrTree, 0, items(api.Item{Kind: api.IRule, Exprs: []api.Expr{nest(mostNest, variable("x"), around)}, Line: 4}, f))
	}
}

// R1: statements as deep as they may be, with an expression at their end.
func TestDeepStmts(t *testing.T) {
	inners := []struct {
		s   api.Stmt
		err api.Errno
	}{
		{bare(variable("x")), api.OK}, {api.Stmt{Kind: api.SNext}, api.ErrPlace}, {bare(call("none")), api.ErrCall}, {bare(element("FS")), api.ErrUse}, {bare(expr(api.XBuiltin, "rand", number(1))), api.ErrCount},
	}
	for _, kind := range []api.StmtKind{api.SBlock, api.SIf, api.SWhile, api.SDo, api.SFor, api.SForIn} {
		for _, inner := range inners {
			s := inner.s
			s.Line = 60
			for levels := range mostNest - 2 {
				if inner.err == api.OK {
					if _, fault := held(t, items(begin(s))); fault != (api.Fault{}) {
						t.Errorf("%d levels of %d: %+v", levels, kind, fault)
					}
				} else {
					treeFaulty(t, inner.err, 60, items(begin(s)))
				}
				outer := loopOf(kind)
				switch kind {
				case api.SBlock:
					outer = api.Stmt{Kind: kind}
				case api.SFor:
					outer.N, outer.Else = 1, []api.Stmt{bare(number(1))}
				}
				if outer.Body = []api.Stmt{s}; kind == api.SIf && levels%2 == 0 {
					outer.Body, outer.Else = nil, outer.Body
				}
				s = outer
			}
		}
	}
}

// R1: programs as great as they may be, one tree within another many times.
func TestGreatPrograms(t *testing.T) {
	right := func(want string, p api.Program) {
		t.Helper()
		if got, fault := held(t, p); say(got) != want || fault != (api.Fault{}) {
			t.Errorf("Resolve(%s) = %s, %+v; want %s", brief(p), brief(say(got)), fault, brief(want))
		}
	}
	f := function("f", []string{"a", "b"})
	right("x", items(of(mostNodes, api.Item{Kind: api.IRule, Exprs: []api.Expr{variable("x")}})...))
	right("x", items(begin(of(mostNodes/2, bare(variable("x")))...)))
	right("x[] | f0(a[] b)", items(f, begin(append(of(mostNodes/3-2, bare(call("f", variable("x")))), bare(element("x")))...)))
	// All names are others.
	var body []api.Stmt
	var want []string
	for i := range mostNodes / 2 {
		body, want = append(body, bare(variable(fmt.Sprint("x", i)))), append(want, fmt.Sprint("x", i))
	}
	right(strings.Join(want, " "), items(begin(body...)))
	body, want = nil, nil
	for i := range mostNodes/3 - 2 {
		body, want = append(body, bare(call("f", variable(fmt.Sprint("x", i))))), append(want, fmt.Sprint("x", i, "[]"))
	}
	right(strings.Join(want, " ")+" | f1(a[] b)", items(begin(append(body, bare(element("x7")))...), f))
	treeFaulty(t, api.ErrUse, 0, items(begin(append(body, bare(element("x7")), bare(variable("x9")))...), f))
	// Each level has the one below it twice.
	e := variable("x")
	for range 10 {
		e = api.Expr{Kind: api.XCat, Kids: of(2, e)}
	}
	right("x", items(begin(bare(e))))
	right("x", items(begin(bare(e.Kids[0])), api.Item{Kind: api.IRule, Exprs: e.Kids}))
	e = call("f", variable("x"), variable("y"))
	for range 8 {
		e = api.Expr{Kind: api.XCat, Kids: of(2, e)}
	}
	right("x[] y | f0(a[] b)", items(f, begin(bare(e), api.Stmt{Kind: api.SDelete, S: "x"}, bare(e))))
	s := []api.Stmt{bare(element("x"))}
	for range 9 {
		s = []api.Stmt{{Kind: api.SIf, Exprs: []api.Expr{variable("y")}, Body: s, Else: s}}
	}
	right("y x[]", items(begin(s...)))
	// One body in many items, which have other names of their own.
	s = []api.Stmt{bare(element("x")), bare(variable("y"))}
	right("y x[] | f0(x[]) g1(y) h2(y x[])", items(function("f", []string{"x"}, s...), function("g", []string{"y"}, s...), function("h", []string{"y", "x"}, s...), begin(s...)))
	treeFaulty(t, api.ErrPlace, 0, items(api.Item{Kind: api.IRule, HasBody: true, Body: of(1, stmt(api.SNext))}, begin(of(1, stmt(api.SNext))...)))
	next := of(1, api.Stmt{Kind: api.SNext, Line: 6})
	treeFaulty(t, api.ErrPlace, 6, items(api.Item{Kind: api.IRule, HasBody: true, Body: next}, begin(next...)))
	loop := of(1, api.Stmt{Kind: api.SBreak, Line: 6})
	treeFaulty(t, api.ErrPlace, 6, items(begin(api.Stmt{Kind: api.SWhile, Exprs: []api.Expr{variable("x")}, Body: loop}, api.Stmt{Kind: api.SBlock, Body: loop})))
}

// R1: more items than there may be parts.
func TestManyItems(t *testing.T) {
	const many = 200000
	var p api.Program
	for i := range many {
		p.Items = append(p.Items, function(fmt.Sprint("f", i), []string{"a", "b"}), begin())
	}
	p.Items[2*many-1] = begin(bare(call(fmt.Sprint("f", many-1), variable("x"), element("x"))))
	got, fault := Resolve(p)
	if fault != (api.Fault{}) || len(got.Fns) != many || say(api.Names{Globals: got.Globals, Fns: got.Fns[many-2:]}) != fmt.Sprintf("x[] | f%d%d(a b) f%d%d(a[] b)", many-2, 2*many-4, many-1, 2*many-2) {
		t.Errorf("%d functions, %+v", len(got.Fns), fault)
	}
	p.Items = append(p.Items, function("f7", nil))
	p.Items[2*many].Line = 3
	if got, fault := Resolve(p); !sameNames(got, api.Names{}) || fault != (api.Fault{Err: api.ErrTwice, Line: 3}) {
		t.Errorf("%d functions, %+v", len(got.Fns), fault)
	}
}

// R1, R7: names as long as they may be.
func TestLongNames(t *testing.T) {
	long := strings.Repeat("n", mostSource)
	other := long[:mostSource-1] + "m"
	p := items(function(long, []string{other, long[1:]}, bare(element(other))), begin(bare(call(long, variable(other))), bare(variable(long[2:]))))
	if got, fault := held(t, p); fault != (api.Fault{}) || say(got) != other+"[] "+long[2:]+" | "+long+"0("+other+"[] "+long[1:]+")" {
		t.Errorf("%s, %+v", brief(say(got)), fault)
	}
	p.Items[1].Body = append(p.Items[1].Body, bare(variable(strings.Clone(long))))
	treeFaulty(t, api.ErrUse, 0, p)
	p.Items[1].Body = []api.Stmt{bare(call(other))}
	treeFaulty(t, api.ErrCall, 0, p)
	p.Items[0].Params[1] = strings.Clone(other)
	treeFaulty(t, api.ErrTwice, 0, p)
	p.Items[0].Params[1] = long + "n"
	treeFaulty(t, api.ErrTree, 0, p)
}

// R1: lists that stand within themselves, and trees whose end nobody comes to, are
// no right trees.
func TestEndlessTrees(t *testing.T) {
	for kids := 1; kids <= 3; kids++ {
		for kind := range api.ExprKind(25) {
			own := make([]api.Expr, kids)
			e := api.Expr{Kind: kind, S: "f", Kids: own}
			if kind != api.XCall && kind != api.XIndex && kind != api.XIn {
				e.S = ""
			}
			for i := range own {
				own[i] = e
			}
			if got, fault := Resolve(items(begin(bare(e)))); !sameNames(got, api.Names{}) || fault != (api.Fault{Err: api.ErrTree}) {
				t.Errorf("kind %d of %d kids that are its own: %+v", kind, kids, fault)
			}
		}
		own := make([]api.Stmt, kids)
		for i := range own {
			own[i] = api.Stmt{Kind: api.SBlock, Body: own}
		}
		if got, fault := Resolve(items(begin(own...))); !sameNames(got, api.Names{}) || fault != (api.Fault{Err: api.ErrTree}) {
			t.Errorf("blocks of %d that are their own: %+v", kids, fault)
		}
	}
	e := nest(mostNest-2, variable("x"), func(e api.Expr) api.Expr { return api.Expr{Kind: api.XCat, Kids: of(2, e)} })
	if _, fault := Resolve(items(begin(bare(e)))); fault != (api.Fault{Err: api.ErrTree}) {
		t.Errorf("a tree of 2^60 parts: %+v", fault)
	}
}

// roomy tells a list with room behind its end in which something stands.
func roomy[T any](list []T, behind T) []T {
	more := append(slices.Clone(list), behind, behind)
	return more[:len(list)]
}

func roomyExprs(exprs []api.Expr) []api.Expr {
	exprs = roomy(exprs, call("none"))
	for i := range exprs {
		exprs[i].Kids = roomyExprs(exprs[i].Kids)
	}
	return exprs
}

func roomyStmts(stmts []api.Stmt) []api.Stmt {
	stmts = roomy(stmts, api.Stmt{Kind: api.SBreak, Line: 77})
	for i := range stmts {
		stmts[i].Exprs = roomyExprs(stmts[i].Exprs)
		stmts[i].Body = roomyStmts(stmts[i].Body)
		stmts[i].Else = roomyStmts(stmts[i].Else)
	}
	return stmts
}

// roomyProgram tells the same program with such lists everywhere: where it has
// none there are lists of no elements.
func roomyProgram(p api.Program) api.Program {
	p.Items = roomy(p.Items, function("NR", nil))
	for i := range p.Items {
		p.Items[i].Params = roomy(p.Items[i].Params, "NR")
		p.Items[i].Exprs = roomyExprs(p.Items[i].Exprs)
		p.Items[i].Body = roomyStmts(p.Items[i].Body)
	}
	return p
}

// R3, R6: what is handed in is as it was, its spare room too, which does not count,
// and a list of no elements is as none.
func TestSpareRoom(t *testing.T) {
	w := &wild{Rand: seeded(), seldom: 200}
	for range 1500 {
		p := w.program()
		got, fault := Resolve(p)
		if other, otherFault := held(t, roomyProgram(p)); fault != otherFault || !sameNames(got, other) {
			t.Errorf("Resolve(%s) = %s, %+v; with spare room %s, %+v", brief(p), say(got), fault, say(other), otherFault)
		}
		if t.Failed() {
			return
		}
	}
}

// R2, R3: what is told is new: to turn it turns neither the program nor what is
// told of it again, nor one list of it another.
func TestAnswersAreNew(t *testing.T) {
	w := &wild{Rand: seeded(), seldom: 1 << 40}
	for range 500 {
		p := w.program()
		before := allOf(p)
		got, fault := Resolve(p)
		again, _ := Resolve(p)
		want := plainNames(got)
		lists := [][]api.Sym{got.Globals}
		for _, fn := range got.Fns {
			lists = append(lists, fn.Params)
		}
		for i, list := range lists {
			list = list[:cap(list)]
			for k := range list {
				list[k] = api.Sym{Name: fmt.Sprint("turned ", i)}
			}
		}
		for i, list := range lists {
			for _, sym := range list {
				if sym.Name != fmt.Sprint("turned ", i) {
					t.Fatalf("two lists of what Resolve(%s) tells share memory", brief(p))
				}
			}
		}
		fns := got.Fns[:cap(got.Fns)]
		for k := range fns {
			fns[k] = api.Fn{Name: "turned"}
		}
		if !sameNames(again, want) || !reflect.DeepEqual(before, allOf(p)) {
			t.Fatalf("what Resolve(%s) tells is shared", brief(p))
		}
		if after, afterFault := Resolve(p); !sameNames(after, want) || fault != afterFault {
			t.Fatalf("Resolve(%s) is %s, %+v, behind %s, %+v", brief(p), say(after), afterFault, say(want), fault)
		}
	}
}

// R3: what is told shares no memory with the texts that were handed in.
func TestTextsAreNew(t *testing.T) {
	f, x, a := strings.Clone("name_f"), strings.Clone("name_x"), strings.Clone("name_a")
	got, fault := Resolve(items(function(f, []string{a}), begin(bare(call(f, variable(x))))))
	if fault != (api.Fault{}) || say(got) != "name_x | name_f0(name_a)" {
		t.Fatalf("%s, %+v", say(got), fault)
	}
	for _, pair := range [][2]string{{f, got.Fns[0].Name}, {a, got.Fns[0].Params[0].Name}, {x, got.Globals[0].Name}} {
		if unsafe.StringData(pair[0]) == unsafe.StringData(pair[1]) {
			t.Errorf("%s is kept", pair[0])
		}
	}
}

// R4: what is told hangs on what is handed in alone: not on what was told before,
// nor on what is told at the same time.
func TestSameAnswers(t *testing.T) {
	w := &wild{Rand: seeded(), seldom: 100}
	var programs []api.Program
	var told []api.Names
	var faults []api.Fault
	for range 400 {
		p := w.program()
		got, fault := Resolve(p)
		programs, told, faults = append(programs, p), append(told, got), append(faults, fault)
	}
	var all sync.WaitGroup
	for worker := range 4 {
		all.Go(func() {
			for i := range programs {
				at := (i*(2*worker+1) + worker) % len(programs)
				if got, fault := Resolve(programs[at]); fault != faults[at] || !sameNames(got, told[at]) {
					t.Errorf("Resolve(%s) = %s, %+v; want %s, %+v", brief(programs[at]), say(got), fault, say(told[at]), faults[at])
				}
				if !Special("NR") || Special("nr") {
					t.Error("Special turned")
				}
			}
		})
	}
	all.Wait()
}

// Chapter 16, examples.
func TestExamples(t *testing.T) {
	names(t, "x[] | f0(t[])", "function f(t) { t[1] = 2 } BEGIN { f(x) }")
	faulty(t, api.ErrUse, 0, "function f(a) { return g(a) } function g(b) { b[1] } BEGIN { f(y); y = 1 }")
	faulty(t, api.ErrPlace, 1, "BEGIN { next }")
	faulty(t, api.ErrCall, 1, "BEGIN { f(1) }")
	faulty(t, api.ErrTwice, 1, "function f(NR) { }")
	names(t, "n z", "BEGIN { n = length(z) }")
}
