package resolve

import (
	"slices"
	"testing"

	"winnower/api"
)

// spot is where something of a program stands.
type spot struct {
	item   int
	stmt   *api.Stmt // none in a rule's Exprs
	around *api.Expr
	at     int
}

// visit tells all statements and expressions of a program.
func visit(p api.Program, onStmt func(s *api.Stmt, at spot), onExpr func(e *api.Expr, at spot)) {
	var exprs func(list []api.Expr, at spot)
	exprs = func(list []api.Expr, at spot) {
		for k := range list {
			at.at = k
			onExpr(&list[k], at)
			deeper := at
			deeper.around = &list[k]
			exprs(list[k].Kids, deeper)
		}
	}
	var stmts func(list []api.Stmt, at spot)
	stmts = func(list []api.Stmt, at spot) {
		for k := range list {
			at.stmt = &list[k]
			onStmt(&list[k], at)
			exprs(list[k].Exprs, at)
			stmts(list[k].Body, at)
			stmts(list[k].Else, at)
		}
	}
	for i, it := range p.Items {
		exprs(it.Exprs, spot{item: i})
		stmts(it.Body, spot{item: i})
	}
}

// told finds what names tell of a name that stands in an item.
type told struct {
	p       api.Program
	globals map[string]api.Sym
	fns     map[string]api.Fn
}

func toldOf(p api.Program, n api.Names) told {
	all := told{p, map[string]api.Sym{}, map[string]api.Fn{}}
	for _, sym := range n.Globals {
		all.globals[sym.Name] = sym
	}
	for _, fn := range n.Fns {
		all.fns[fn.Name] = fn
	}
	return all
}

func (all told) isArray(t *testing.T, item int, name string) bool {
	t.Helper()
	it := all.p.Items[item]
	if at := slices.Index(it.Params, name); at >= 0 {
		return all.fns[it.Name].Params[at].Array
	}
	if slices.Contains(specials(), name) {
		return false
	}
	sym, ok := all.globals[name]
	if !ok {
		t.Errorf("%s of item %d of %s is not told", name, item, brief(all.p))
	}
	return sym.Array
}

// sortsHold says that what is told of a program follows (P16.4): that an array is
// used as a value nowhere, and the other way about, and that what is handed to a
// parameter that is an array is one.
func sortsHold(t *testing.T, p api.Program, n api.Names) {
	t.Helper()
	all := toldOf(p, n)
	if len(all.globals) != len(n.Globals) || len(all.fns) != len(n.Fns) {
		t.Errorf("a name is told twice of %s: %s", brief(p), brief(say(n)))
	}
	use := func(item int, name string, array bool) {
		t.Helper()
		if all.isArray(t, item, name) != array {
			t.Errorf("%s of item %d of %s is used as an array: %v", name, item, brief(p), array)
		}
	}
	visit(p, func(s *api.Stmt, at spot) {
		if s.Kind == api.SForIn || s.Kind == api.SDelete {
			use(at.item, s.S, s.Kind == api.SDelete)
		}
	}, func(e *api.Expr, at spot) {
		if at.around != nil && at.around.Kind == api.XCall {
			array := all.fns[at.around.S].Params[at.at].Array
			if is := e.Kind == api.XVar && all.isArray(t, at.item, e.S); is != array {
				t.Errorf("%s: argument %d of %s is an array: %v; its parameter: %v", brief(p), at.at, brief(*at.around), is, array)
			}
			if e.Kind == api.XVar {
				return
			}
		}
		switch e.Kind {
		case api.XIndex, api.XIn:
			use(at.item, e.S, true)
		case api.XVar:
			ofLoop := at.around == nil && at.stmt != nil && at.stmt.Kind == api.SForIn
			ofSplit := at.around != nil && at.around.Kind == api.XBuiltin && at.around.S == "split" && at.at == 1
			if at.around == nil || at.around.Kind != api.XBuiltin || at.around.S != "length" {
				use(at.item, e.S, ofLoop || ofSplit)
			}
		}
	})
}

// sources have each kind of expression and statement, and the programs of DOC.md.
func sources() []string {
	return []string{
		"function f(a, \n b) \n { return a } function g () { } { f(x) }",
		"BEGIN { ; a ; b \n ; { c } } a , b",
		"{ if (a) \n b ; else \n { c } if (d) ; }",
		"{ while (a) \n b \n while (c) break ; while (d) { continue } }",
		"{ do \n a ; \n while (b) ; do { c } while (d) \n do ; while (e) }",
		"{ for (a in b) \n c ; for (a in b ; ; ) { } }",
		"{ for (a ; \n b ; \n c) \n d ; for ( ; ; ) ; }",
		"{ for ((a, b) in c ; d in e ; ) ; for ((a in f) ; ; g) { } }",
		"{ next ; exit ; exit a }",
		"{ delete a ; delete a[b] \n delete a[b, \n c] }",
		"{ print ; print a ; print a , \n b ; print (a , \n b) ; print (a) b }",
		"{ print a > b ; print (a, b) >> c d \n print | e ; print (a)(b) > c }",
		"{ printf a ; printf (a, b) ; printf a , b > c ; printf (a) | b c }",
		"{ a = x += c ; $a -= b[c] *= d \n a /= x %= c ^= d }",
		"{ a ? \n b : \n c ; a || \n b && \n c ; a in t in u }",
		"{ a ~ b ; a !~ b ; a < b ; a <= b ; a == b ; a != b ; a > b ; a >= b }",
		`{ a | getline ; a b | getline c | getline $d ; getline ; getline a ; getline a < b ; getline < "f" }`,
		"{ a b 1 \"s\" f(a) substr(a, 1) length $b (c) } function f(x) { x }",
		"{ a + b - c * d / e % - f ^ - ! g ^ h }",
		"{ ! - + a ; ++a ; --$b ; a++ ; $b-- ; t[b]++ ; --t[a, b] }",
		"function f(a, b) { a b } { /a/ ; a ~ /=/ ; ! /b/ ; a / b / c ; f(/d/, \n 1e3) }",
		"{ (a) ; (a, \n b) in c ; t[b, \n c[d]] ; length () ; length ; gsub(a, b) }",
		"{ n += $1; t[$2]++ } END { print n; for (k in t) print k, t[k] }",
		"BEGIN { OFS = \"-\" } { $2 = \"x\"; print; NF = 4; print; print NF, $1 }",
		"{ n++ } END { print n, NR }",
		"function f(n, a) { if (n < 2) return 1; a[n] = 1; return n * f(n - 1, a) }\nBEGIN { print f(5, t); for (k in t) s = s k; print s }",
		"/a/, /b/ { print \"in\", $0; next } { print \"out\", $0 }",
		"BEGIN { while ((getline l < \"f\") > 0) n++; \"date\" | getline d; print n, d > \"o\"; close(\"o\"); getline x < \"o\"; print x }",
		"BEGIN { print 0.1 + 0.2, 1e6, 1e20, \"10\" < 9, 10 < 9; printf \"%5.2f|%-4d|%c|%s\\n\", 3.14159, 42, 65, 1 / 4 }",
		"BEGIN { s = \"banana\"; n = gsub(/a/, \"<&>\", s); print n, s; match(\"foobar\", /o+/); print RSTART, RLENGTH; print split(\"a:b:c\", t, \":\"), t[3], substr(\"hello\", 2, 3) }",
		"{ if ($1 == \"q\") exit 3; print } END { print \"bye\" }",
		"BEGIN { print > \"a\"; print > \"b\" }",
		"function f(n) { return f(n + 1) } BEGIN { f(1) }",
		"",
	}
}

// P16.2 to P16.4: sources without a fault, by themselves and one behind the other.
func TestSources(t *testing.T) {
	for _, text := range sources() {
		isRight(t, text)
		isRight(t, "{ aa = bb[cc] } function ff(aa, bb) { aa[bb] }\n"+text+"\n{ ff(bb, cc) }")
	}
}
