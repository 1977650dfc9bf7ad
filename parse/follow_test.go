package parse

import (
	"math/rand"
	"slices"
	"strings"
	"testing"

	"winnower/api"
	"winnower/nodes"
)

// among tells a source with more in it: at some of the tokens' places what more
// tells of them, in front of what stands there.
func among(text string, places []int, more func() string) string {
	places = slices.Clone(places)
	slices.Sort(places)
	var out strings.Builder
	from := 0
	for _, at := range slices.Compact(places) {
		out.WriteString(text[from:at] + more())
		from = at
	}
	return out.String() + text[from:]
}

// tokensOf tells the places of the tokens of what the grammar lets stand, but of
// each ( right behind a name.
func tokensOf(n *node) []int {
	var places []int
	behind := api.TokKind(0)
	var walk func(n *node)
	walk = func(n *node) {
		if n.rule == "" {
			if behind != api.TFunc {
				places = append(places, n.token.At)
			}
			behind = n.token.Kind
		}
		for _, kid := range n.kids {
			walk(kid)
		}
	}
	walk(n)
	return places
}

// ends tells the places of lines' ends and of the source's.
func ends(n *node) []int {
	var places []int
	if n.token.Kind == api.TLine || n.token.Kind == api.TEnd {
		places = append(places, n.token.At)
	}
	for _, kid := range n.kids {
		places = append(places, ends(kid)...)
	}
	return places
}

// alike says that two sources say the same, but for lines: these only where one
// has more of them.
func alike(t *testing.T, text, other string) {
	t.Helper()
	p, fault := Parse(text)
	q, otherFault := held(t, other)
	if fault != otherFault || fault.Err != api.OK {
		t.Errorf("Parse(%s) has %+v, Parse(%s) %+v", brief(text), fault, brief(other), otherFault)
	}
	if strings.Count(text, "\n") != strings.Count(other, "\n") {
		p, q = unlined(p), unlined(q)
	}
	if !same(p, q) {
		t.Errorf("Parse(%s) = %s, Parse(%s) = %s", brief(text), brief(sayProgram(p)), brief(other), brief(sayProgram(q)))
	}
}

// rightSources tells sources that are right, by the grammar.
func rightSources(r *rand.Rand, n int) []string {
	sources := rulesSources()
	for len(sources) < n {
		text := source(sentence(r))
		if _, fault := Parse(text); fault.Err == api.OK {
			sources = append(sources, text)
		}
	}
	return sources
}

// P14.2: more blanks, remarks, joined lines and terms between statements change
// nothing but lines.
func TestMoreChangesNothing(t *testing.T) {
	r := seeded()
	of := func(some ...string) func() string {
		return func() string { return some[r.Intn(len(some))] }
	}
	blanks := of("", " ", "\t", "\r", "  \t")
	joined := of("", "\\\n", " \\\n\\\n ")
	remarks := of("", " #", "# a", "# \"/{", "\t# \\")
	terms := of("", ";", "\n", ";;\n", " # a\n;", "\n\n\n")
	lines := of("", "\n", "# a\n\n", "\\\n\n")
	changed := 0
	for _, text := range rightSources(r, 4000) {
		m, tree, fault := modelTree(text)
		if fault.Err != api.OK {
			t.Fatalf("Parse(%s) has %+v", brief(text), fault)
		}
		for _, other := range []string{
			among(text, tokensOf(tree), blanks),
			among(text, tokensOf(tree), joined),
			among(text, ends(tree), remarks),
			among(text, m.terms, terms),
			among(text, m.lines, lines),
		} {
			alike(t, text, other)
			if other != text {
				changed++
			}
		}
		// One of them behind the other.
		other := among(text, m.terms, terms)
		_, tree, _ = modelTree(other)
		other = among(other, ends(tree), remarks)
		_, tree, _ = modelTree(other)
		alike(t, text, among(other, tokensOf(tree), joined))
		if t.Failed() {
			return
		}
	}
	if changed < 10000 {
		t.Error(changed)
	}
}

// P14.2: the same of some sources, as they are written.
func TestWritten(t *testing.T) {
	want := "rule a {if b {c; d} else {e}; print:1 f (cat g h)} & BEGIN {for:7 {(= i 1); (post++ i)} (< i 9) {(= (t[] i) (f() i j))}} & function f(a b) {return (* a b)}"
	for _, text := range []string{
		"a{if(b){c;d}else e;print f>g h}BEGIN{for(i=1;i<9;i++)t[i]=f(i,j)}function f(a,b){return a*b}",
		"a { if (b) { c; d } else e; print f > g h }\nBEGIN { for (i = 1; i < 9; i++) t[i] = f(i, j) }\nfunction f(a, b) { return a * b }",
		";;\n a\\\n{\n;;if\\\n(\tb ) # x\n{\n\nc\n;\nd # y\n}\n;\nelse\n\n\te;;\nprint \\\n f>g\\\nh\r\n;\n} ;\n\n# z\nBEGIN\\\n {\n for ( i=1 ; # x\n\n i<9;\n i ++ )# y\n\n t [ i ] = f( i ,\n\n j ) ; }\n\nfunction f ( a , # x\n\n b )\n\n# y\n{ ; return a\\\n*b ; }\n;\n# z",
	} {
		tells(t, text, want)
	}
}

// P14.2: what is parsed is right, and so is each part of it; and what has a fault
// tells no program.
func TestRight(t *testing.T) {
	r := seeded()
	for _, text := range rightSources(r, 3000) {
		p, _ := Parse(text)
		if !nodes.Right(p) {
			t.Errorf("Parse(%s) = %s, which is not right", brief(text), brief(sayProgram(p)))
		}
		for _, item := range p.Items {
			if !nodes.Right(api.Program{Items: []api.Item{item}}) {
				t.Errorf("Parse(%s) has %s, which is not right", brief(text), brief(sayItem(item)))
			}
			for _, e := range item.Exprs {
				if !nodes.Expr(e) {
					t.Errorf("Parse(%s) has %s, which is not right", brief(text), brief(sayExpr(e)))
				}
			}
		}
	}
}
