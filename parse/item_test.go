package parse

import (
	"strconv"
	"strings"
	"testing"

	"winnower/api"
)

// Chapter 14, examples.
func TestExamples(t *testing.T) {
	tells(t, "BEGIN { print 1+2*3 }", "BEGIN {print:0 (+ 1 (* 2 3))}")
	tells(t, "$1 ~ /a/ { n++ }\nEND { print n }", "rule (~ ($ 1) /a/) {(post++ n)} & END {print:0 n}")
	tells(t, "{ print a > \"f\" \"g\" }", "rule {print:1 a (cat \"f\" \"g\")}")
	tells(t, "{ a = b ~ c ? d : e }", "rule {(= a (? (~ b c) d e))}")
	tells(t, "{ print (1, 2) }", "rule {print:0 1 2}")
	tells(t, "{ x = (i, j) in t }", "rule {(= x (in:t i j))}")
	tells(t, "{ if (a) b; else c }", "rule {if a {b} else {c}}")
	refuses(t, "{ 1 = 2 }", api.ErrSyntax, 1)
	refuses(t, "{", api.ErrSyntax, 1)
}

// DOC.md, sources of the ten examples of the whole.
func TestSourcesOfTheWhole(t *testing.T) {
	for _, c := range [][2]string{
		{"{ n += $1; t[$2]++ } END { print n; for (k in t) print k, t[k] }\n", "rule {(+= n ($ 1)); (post++ (t[] ($ 2)))} & END {print:0 n; for k in t {print:0 k (t[] k)}}"},
		{"BEGIN { OFS = \"-\" } { $2 = \"x\"; print; NF = 4; print; print NF, $1 }\n", "BEGIN {(= OFS \"-\")} & rule {(= ($ 2) \"x\"); print:0; (= NF 4); print:0; print:0 NF ($ 1)}"},
		{"{ n++ } END { print n, NR }", "rule {(post++ n)} & END {print:0 n NR}"},
		{"function f(n, a) { if (n < 2) return 1; a[n] = 1; return n * f(n - 1, a) }\nBEGIN { print f(5, t); for (k in t) s = s k; print s }", "function f(n a) {if (< n 2) {return 1}; (= (a[] n) 1); return (* n (f() (- n 1) a))} & BEGIN {print:0 (f() 5 t); for k in t {(= s (cat s k))}; print:0 s}"},
		{"/a/, /b/ { print \"in\", $0; next } { print \"out\", $0 }", "rule /a/ /b/ {print:0 \"in\" ($ 0); next} & rule {print:0 \"out\" ($ 0)}"},
		{"BEGIN { while ((getline l < \"f\") > 0) n++; \"date\" | getline d; print n, d > \"o\"; close(\"o\"); getline x < \"o\"; print x }", "BEGIN {while (> (get:10 l \"f\") 0) {(post++ n)}; (get:11 d \"date\"); print:1 n d \"o\"; (close \"o\"); (get:10 x \"o\"); print:0 x}"},
		{"BEGIN { print 0.1 + 0.2, 1e6, 1e20, \"10\" < 9, 10 < 9; printf \"%5.2f|%c\\n\", 3.14159, 1 / 4 }", "BEGIN {print:0 (+ 0.1 0.2) 1e+06 1e+20 (< \"10\" 9) (< 10 9); printf:0 \"%5.2f|%c\\n\" 3.14159 (/ 1 4)}"},
		{"BEGIN { s = \"banana\"; n = gsub(/a/, \"<&>\", s); print n, s; match(\"foobar\", /o+/); print split(\"a:b:c\", t, \":\"), t[3] }", "BEGIN {(= s \"banana\"); (= n (gsub /a/ \"<&>\" s)); print:0 n s; (match \"foobar\" /o+/); print:0 (split \"a:b:c\" t \":\") (t[] 3)}"},
		{"{ if ($1 == \"q\") exit 3; print } END { print \"bye\" }", "rule {if (== ($ 1) \"q\") {exit 3}; print:0} & END {print:0 \"bye\"}"},
		{"function f(n) { return f(n + 1) } BEGIN { f(1) }", "function f(n) {return (f() (+ n 1))} & BEGIN {(f() 1)}"},
		{"function f(n) { return n < 2 ? 1 : n * f(n - 1) } BEGIN { while (1) ; }", "function f(n) {return (? (< n 2) 1 (* n (f() (- n 1))))} & BEGIN {while 1 {}}"},
	} {
		tells(t, c[0], c[1])
	}
	refuses(t, "BEGIN { print (1 }\n", api.ErrSyntax, 1)
	refuses(t, "x = (\n", api.ErrSyntax, 1)
}

// P14.1: sources of nothing, of what is passed over, and of terms.
func TestNoItems(t *testing.T) {
	for _, text := range []string{"", " ", "\t\r ", "#", "# {", "#\n", "\n", "\n\n", ";", ";;;", ";\n;", " \n\t;\r\n # }\n", "\\\n", "\\\n\\\n;", "#\n#\n#", strings.Repeat("\n", mostSource), strings.Repeat(";", mostSource), strings.Repeat(" ", mostSource), "#" + strings.Repeat("(", mostSource-1)} {
		p, fault := held(t, text)
		if len(p.Items) != 0 || fault != (api.Fault{}) {
			t.Errorf("Parse(%s) = %s, %+v", brief(text), sayProgram(p), fault)
		}
	}
}

// P14.1: items of each kind, with terms ahead and behind.
func TestItemsAndTerms(t *testing.T) {
	items := [][2]string{{"BEGIN { a }", "BEGIN {a}"}, {"BEGIN {}", "BEGIN {}"}, {"END { a }", "END {a}"}, {"END{}", "END {}"}, {"function f(a) { b }", "function f(a) {b}"}, {"{ a }", "rule {a}"}, {"{ }", "rule {}"}, {"a { b }", "rule a {b}"}, {"a, b { c }", "rule a b {c}"}, {"a {}", "rule a {}"}, {"a", "rule a"}, {"a, b", "rule a b"}, {"/a/", "rule /a/"}, {"getline", "rule (get:1)"}}
	terms := []string{"", ";", "\n", ";;", "\n\n", "; \n ;", "\n;\n# a\n", " ; # b\n\n"}
	for _, x := range items {
		for _, ahead := range terms {
			for _, behind := range terms {
				tells(t, ahead+x[0]+behind, x[1])
			}
		}
		for _, y := range items {
			for _, between := range terms[1:] {
				tells(t, x[0]+between+y[0], x[1]+" & "+y[1])
				tells(t, between+x[0]+between+y[0]+between+x[0]+between, x[1]+" & "+y[1]+" & "+x[1])
			}
			if strings.HasSuffix(x[0], "}") {
				tells(t, x[0]+y[0], x[1]+" & "+y[1])
				tells(t, x[0]+" "+y[0]+"\n"+x[0], x[1]+" & "+y[1]+" & "+x[1])
			}
		}
	}
}

// P14.1: behind an item without a body a term or the end must stand.
func TestTwoItemsInALine(t *testing.T) {
	for _, text := range []string{"a BEGIN { }", "a END { }", "a function f() { }", "a, b BEGIN { }", "a, b function f() { }", "a !b", "a, b, c", "a, b, c { }", "a }", "a )", "a, b }", "a, b ] ", "getline BEGIN { }", "1 = 2", "a ? b : c : d", "a, b getline", "a if", "a print"} {
		refuses(t, text, api.ErrSyntax, 1)
		refuses(t, "{ x }\n"+text, api.ErrSyntax, 2)
	}
	tells(t, "a b", "rule (cat a b)")
	tells(t, "a\nb", "rule a & rule b")
	tells(t, "a;b", "rule a & rule b")
	tells(t, "a\n{ b }", "rule a & rule {b}")
	tells(t, "a { b } c", "rule a {b} & rule c")
	tells(t, "a { b } { c } d, e { f }", "rule a {b} & rule {c} & rule d e {f}")
	tells(t, "a { b } /c/", "rule a {b} & rule /c/")
	tells(t, "{ a } !b", "rule {a} & rule (! b)")
	tells(t, "{ a } /=b/, c", "rule {a} & rule /=b/ c")
}

// P14.1: patterns: one, two, no more.
func TestRules(t *testing.T) {
	tells(t, "a,\nb", "rule a b")
	tells(t, "a,\n\n \n# x\nb { c }", "rule a b {c}")
	tells(t, "a = 1, b ? c : d { e }", "rule (= a 1) (? b c d) {e}")
	tells(t, "a > b, c | getline", "rule (> a b) (get:3 c)")
	tells(t, "(a, b) in t, (c)", "rule (in:t a b) c")
	tells(t, "a{b}", "rule a {b}")
	tells(t, "t[1]{b}", "rule (t[] 1) {b}")
	refuses(t, "a,", api.ErrSyntax, 1)
	refuses(t, "a,\n", api.ErrSyntax, 2)
	refuses(t, "a,\n\n{ b }", api.ErrSyntax, 3)
	refuses(t, "a, { b }", api.ErrSyntax, 1)
	refuses(t, "a,;b", api.ErrSyntax, 1)
	refuses(t, ", a", api.ErrSyntax, 1)
	refuses(t, "a\n, b", api.ErrSyntax, 2)
	refuses(t, "a, b,", api.ErrSyntax, 1)
	refuses(t, "a, b\n, c", api.ErrSyntax, 2)
	refuses(t, "(a, b)", api.ErrSyntax, 1)
	refuses(t, "(a, b) { c }", api.ErrSyntax, 1)
	for _, s := range []string{"if", "else", "while", "for", "do", "break", "continue", "next", "exit", "return", "delete", "in", "print", "printf"} {
		refuses(t, s, api.ErrSyntax, 1)
		refuses(t, s+" { a }", api.ErrSyntax, 1)
		refuses(t, "a, "+s, api.ErrSyntax, 1)
	}
}

// P14.1: BEGIN and END have a body, in the same line, and no pattern.
func TestBeginAndEnd(t *testing.T) {
	for _, s := range []string{"BEGIN", "END"} {
		tells(t, s+"{a}", s+" {a}")
		tells(t, s+" { a; b\nc }", s+" {a; b; c}")
		tells(t, s+" {\n}", s+" {}")
		tells(t, s+" \\\n { a }", s+" {a}")
		tells(t, s+" { a } "+s+" { b }", s+" {a} & "+s+" {b}")
		for _, text := range []string{"", "\n{ a }", ";{ a }", " a", " a { b }", "(a) { b }", ", a { b }", " = 1", " }", " )", "++", "[1] { a }", " " + s + " { a }"} {
			refuses(t, s+text, api.ErrSyntax, 1)
		}
		refuses(t, "a, "+s+" { b }", api.ErrSyntax, 1)
		refuses(t, "{ "+s+" { b } }", api.ErrSyntax, 1)
		refuses(t, "{ "+s+" }", api.ErrSyntax, 1)
		refuses(t, s+" {\n", api.ErrSyntax, 2)
		refuses(t, s+" { a", api.ErrSyntax, 1)
		refuses(t, s+" { a }\n}", api.ErrSyntax, 2)
	}
}

// params tells the names of so many parameters.
func params(n int, first string) []string {
	var names []string
	for i := range n {
		names = append(names, first+strconv.Itoa(i))
	}
	return names
}

// P14.1: functions.
func TestFunctions(t *testing.T) {
	for _, c := range [][2]string{
		{"function f() { }", "function f() {}"}, {"function f () { }", "function f() {}"}, {"function f(a) { b }", "function f(a) {b}"}, {"function f (a) { b }", "function f(a) {b}"}, {"function f\\\n(a) { b }", "function f(a) {b}"}, {"function f( a , b , c ) { }", "function f(a b c) {}"},
		{"function f(a,\nb) { }", "function f(a b) {}"}, {"function f(a,\n\n b,\n# x\n\nc) { }", "function f(a b c) {}"}, {"function f(a)\n{ b }", "function f(a) {b}"}, {"function f()\n\n # x\n{ b }", "function f() {b}"}, {"function f(a, a, a) { }", "function f(a a a) {}"}, {"function f(f) { f }", "function f(f) {f}"},
		{"function NF(NR) { }", "function NF(NR) {}"}, {"function f(){}function g(){}", "function f() {} & function g() {}"}, {"function f() { } function f() { }", "function f() {} & function f() {}"}, {"function f() { return a }", "function f() {return a}"}, {"function f(a){return}f()", "function f(a) {return} & rule (f())"},
	} {
		tells(t, c[0], c[1])
	}
	for _, text := range []string{"function", "function f", "function f(", "function f()", "function f(a", "function f(a,", "function f(a)", "function f(a) b", "function f(a);{ }", "function f { }", "function (a) { }", "function 1() { }", "function \"f\"() { }", "function $f() { }", "function f(1) { }", "function f(a b) { }", "function f(a,) { }", "function f(,a) { }", "function f(a,,b) { }", "function f(,) { }", "function f(a;b) { }", "function f(a[1]) { }", "function f(a()) { }", "function f(g(a)) { }", "function f(a, g(b)) { }", "function f((a)) { }", "function f(a)) { }", "function f() { } = 1", "function f(a = 1) { }", "function f[a] { }", "function f(a) , { }", "{ function f(a) { } }", "f = function", "function f(\"a\") { }"} {
		refuses(t, text, api.ErrSyntax, 1)
	}
	for _, text := range []string{"function\nf() { }", "function f\n() { }", "function f(\na) { }", "function f(\n) { }", "function f(a\n) { }", "function f(a\n, b) { }"} {
		refuses(t, text, api.ErrSyntax, 1)
	}
	refuses(t, "function f(a,\n) { }", api.ErrSyntax, 2)
	refuses(t, "function f(a,;b) { }", api.ErrSyntax, 1)
	refuses(t, "function f(a)\n;{ }", api.ErrSyntax, 2)
	refuses(t, "function f(a)\n\n", api.ErrSyntax, 3)
	for _, s := range append(builtinWords(), "BEGIN", "END", "function", "if", "else", "while", "for", "do", "break", "continue", "next", "exit", "return", "delete", "in", "print", "printf", "getline") {
		refuses(t, "function "+s+"(a) { }", api.ErrSyntax, 1)
		refuses(t, "function "+s+" (a) { }", api.ErrSyntax, 1)
		refuses(t, "function f("+s+") { }", api.ErrSyntax, 1)
		refuses(t, "function f(a,\n"+s+") { }", api.ErrSyntax, 2)
	}
}

// P14.1: a function has 20 parameters at most; what is no source counts ahead.
func TestParams(t *testing.T) {
	for _, n := range []int{0, 1, 2, 19, 20, 21, 22, 100, 3000} {
		for _, names := range [][]string{params(n, "p"), strings.Split(strings.Repeat(",a", n), ",")[1:]} {
			head := "function f(" + strings.Join(names, ",\n") + ") "
			lines := strings.Count(head, "\n")
			if n <= mostParams {
				tells(t, head+"{ a }", "function f("+strings.Join(names, " ")+") {a}")
				tells(t, "a\n"+head+"{ } b", "rule a & function f("+strings.Join(names, " ")+") {} & rule b")
			} else {
				refuses(t, head+"{ a }", api.ErrNested, 0)
				refuses(t, "a; "+head+"{ } b", api.ErrNested, 0)
			}
			refuses(t, head+"{ ) }", api.ErrSyntax, 1+lines)
			refuses(t, head+"{ a }\n\"", api.ErrToken, 2+lines)
			refuses(t, head+"{ a = 1e999 }", api.ErrSyntax, 1+lines)
		}
	}
}

// P14.1: HasBody is of rules with a body alone; of all items what isn't named is
// empty.
func TestWhatItemsHave(t *testing.T) {
	p, _ := held(t, "BEGIN { a }\nEND { a }\nfunction f(b) { a }\n{ a }\nc { a }\nd, e\nf\n{ }")
	want := []api.Item{
		{Kind: api.IBegin, Line: 1}, {Kind: api.IEnd, Line: 2}, {Kind: api.IFunc, Name: "f", Params: []string{"b"}, Line: 3},
		{Kind: api.IRule, HasBody: true, Line: 4}, {Kind: api.IRule, HasBody: true, Line: 5}, {Kind: api.IRule, Line: 6}, {Kind: api.IRule, Line: 7}, {Kind: api.IRule, HasBody: true, Line: 8},
	}
	if len(p.Items) != len(want) {
		t.Fatal(sayProgram(p))
	}
	for i, item := range p.Items {
		body, exprs := item.Body, item.Exprs
		item.Body, item.Exprs = nil, nil
		if !same(api.Program{Items: []api.Item{item}}, api.Program{Items: want[i : i+1]}) || len(body) != map[bool]int{true: 1, false: 0}[i < 5] || len(exprs) != []int{0, 0, 0, 0, 1, 2, 1, 0}[i] {
			t.Errorf("item %d is %+v", i, p.Items[i])
		}
	}
}
