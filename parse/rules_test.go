package parse

import (
	"slices"
	"strings"
	"testing"
	"unsafe"

	"winnower/api"
)

// span is where something lies in memory.
type span struct{ from, to uintptr }

func spanOf[T any](list []T) span {
	from := uintptr(unsafe.Pointer(unsafe.SliceData(list)))
	var one T
	return span{from, from + uintptr(cap(list))*unsafe.Sizeof(one)}
}

// spansOf tells where the lists of a program lie, with their spare room.
func spansOf(p api.Program) []span {
	spans := []span{spanOf(p.Items)}
	var exprs func(list []api.Expr)
	exprs = func(list []api.Expr) {
		spans = append(spans, spanOf(list))
		for _, e := range list {
			exprs(e.Kids)
		}
	}
	var stmts func(list []api.Stmt)
	stmts = func(list []api.Stmt) {
		spans = append(spans, spanOf(list))
		for _, s := range list {
			exprs(s.Exprs)
			stmts(s.Body)
			stmts(s.Else)
		}
	}
	for _, item := range p.Items {
		spans = append(spans, spanOf(item.Params))
		exprs(item.Exprs)
		stmts(item.Body)
	}
	return slices.DeleteFunc(spans, func(s span) bool { return s.from == s.to })
}

// R3: what is told is new: no two lists share memory, of one answer or of two.
func TestListsAreNew(t *testing.T) {
	r := seeded()
	for _, text := range append(rightSources(r, 500), "function f(a, b, c) { print (a, b, c) > d e; for (;;) { f(a, b, c)\n t[a, b, c] } }") {
		p, _ := Parse(text)
		q, _ := Parse(text)
		spans := append(spansOf(p), spansOf(q)...)
		slices.SortFunc(spans, func(a, b span) int { return int(a.from) - int(b.from) })
		for i := 1; i < len(spans); i++ {
			if spans[i].from < spans[i-1].to {
				t.Fatalf("lists of Parse(%s) share memory", brief(text))
			}
		}
	}
}

// textsOf tells all texts of a program.
func textsOf(p api.Program) []string {
	var texts []string
	var exprs func(list []api.Expr)
	exprs = func(list []api.Expr) {
		for _, e := range list {
			texts = append(texts, e.S)
			exprs(e.Kids)
		}
	}
	var stmts func(list []api.Stmt)
	stmts = func(list []api.Stmt) {
		for _, s := range list {
			texts = append(texts, s.S)
			exprs(s.Exprs)
			stmts(s.Body)
			stmts(s.Else)
		}
	}
	for _, item := range p.Items {
		texts = append(append(texts, item.Name), item.Params...)
		exprs(item.Exprs)
		stmts(item.Body)
	}
	return texts
}

// R3: what is told shares no memory with the source.
func TestTextsAreNew(t *testing.T) {
	for _, text := range rulesSources() {
		p, _ := Parse(text)
		source := span{uintptr(unsafe.Pointer(unsafe.StringData(text))), 0}
		source.to = source.from + uintptr(len(text))
		for _, s := range textsOf(p) {
			at := uintptr(unsafe.Pointer(unsafe.StringData(s)))
			if s != "" && at >= source.from && at < source.to {
				t.Errorf("%q of Parse(%s) lies in the source", s, brief(text))
			}
		}
	}
}

// R2: beside a fault there is no program, wherever a source ends too soon.
func TestNothingBesideFaults(t *testing.T) {
	for _, text := range rulesSources() {
		for end := range len(text) {
			held(t, text[:end])
			held(t, text[:end]+")")
			held(t, text[:end]+"@")
			held(t, text[end:])
		}
	}
	for _, text := range []string{strings.Repeat("a;", 4001), strings.Repeat("- ", 60) + "a", "function f(" + strings.Repeat("a, ", 20) + "a) { }", strings.Repeat("(", 200), "a; b; )", "a; b; @", strings.Repeat("a", mostSource+1)} {
		p, fault := held(t, text)
		if fault.Err == api.OK || p.Items != nil {
			t.Errorf("Parse(%s) = %s, %+v", brief(text), brief(sayProgram(p)), fault)
		}
	}
}
