package parse

import (
	"slices"
	"strconv"
	"testing"

	"winnower/api"
)

// tellsStmt says what a statement tells, wherever one may stand.
func tellsStmt(t *testing.T, text, want string) {
	t.Helper()
	tells(t, "{ "+text+" }", "rule {"+want+"}")
	tells(t, "{ "+text+"\n}", "rule {"+want+"}")
	tells(t, "BEGIN {\nx; "+text+"; y }", "BEGIN {x; "+want+"; y}")
	tells(t, "function f() {{\n"+text+"\n\ny }}", "function f() {{"+want+"; y}}")
	tells(t, "{ if (x) "+text+"\n}", "rule {if x {"+want+"}}")
	tells(t, "{ while (x)\n"+text+"\n}", "rule {while x {"+want+"}}")
	tells(t, "{ if (x) y; else "+text+"; }", "rule {if x {y} else {"+want+"}}")
	tells(t, "{ do "+text+"\nwhile (x) }", "rule {do {"+want+"} x}")
	tells(t, "{ for (;;) "+text+"; }", "rule {for:0 {} {"+want+"}}")
	tells(t, "{ for (k in t)\n\n"+text+"\n}", "rule {for k in t {"+want+"}}")
}

// refusesStmt says that no statement is a text, by its last token, or by what
// stands behind it.
func refusesStmt(t *testing.T, text string) {
	t.Helper()
	refuses(t, "{ "+text+" }", api.ErrSyntax, 1)
	refuses(t, "BEGIN { x; "+text+" }", api.ErrSyntax, 1)
	refuses(t, "\n{ while (x) "+text+" }", api.ErrSyntax, 2)
}

// P14.1: bodies.
func TestBodies(t *testing.T) {
	for _, c := range [][2]string{
		{"{}", "{}"}, {"{ }", "{}"}, {"{ ; }", "{}"}, {"{;;}", "{}"}, {"{\n}", "{}"}, {"{\n;\n;;\n}", "{}"}, {"{ # a\n}", "{}"}, {"{ a }", "{a}"}, {"{a;}", "{a}"}, {"{;a}", "{a}"}, {"{a\n}", "{a}"}, {"{\n\na;;\n;\nb}", "{a; b}"}, {"{ a; b; c }", "{a; b; c}"}, {"{ a\nb\nc\n}", "{a; b; c}"}, {"{ a ;\n b }", "{a; b}"},
		{"{ a b }", "{(cat a b)}"}, {"{ {} }", "{{}}"}, {"{{a}}", "{{a}}"}, {"{{a}{b}}", "{{a}; {b}}"}, {"{{{}}}", "{{{}}}"}, {"{ {a} b }", "{{a}; b}"}, {"{ a; {b} c }", "{a; {b}; c}"}, {"{ {a};\n{b}\n }", "{{a}; {b}}"}, {"{ if (a) {b} c }", "{if a {b}; c}"}, {"{ if (a) b; c }", "{if a {b}; c}"}, {"{ if (a) ; c }", "{if a {}; c}"}, {"{ while (a) {b} c }", "{while a {b}; c}"}, {"{ for (;;) {} {} }", "{for:0 {} {}; {}}"},
	} {
		tells(t, c[0], "rule "+c[1])
		tells(t, "a "+c[0], "rule a "+c[1])
		tells(t, "BEGIN "+c[0], "BEGIN "+c[1])
		tells(t, "END"+c[0], "END "+c[1])
		tells(t, "function f(a)\n"+c[0], "function f(a) "+c[1])
		tells(t, "{"+c[0]+"}", "rule {"+c[1]+"}")
		tells(t, "{ if (x) "+c[0]+" else\n"+c[0]+"}", "rule {if x "+c[1]+elseOf(c[1])+"}")
		tells(t, "{ while (x)\n"+c[0]+"}", "rule {while x "+c[1]+"}")
		tells(t, "{ do"+c[0]+"while (x) }", "rule {do "+c[1]+" x}")
		tells(t, "{ for (;;)"+c[0]+"}", "rule {for:0 {} "+c[1]+"}")
		tells(t, "{ for (k in t)"+c[0]+"}", "rule {for k in t "+c[1]+"}")
	}
	for _, text := range []string{"{ a", "{", "{ a;", "{{ a }", "{ { }", "}", "{ } }", "{ a } }", "{ next next }", "{ break next }", "{ print print }", "{ delete a delete b }", "{ exit exit }", "{ a print }", "{ a { b } }", "{ next { b } }", "{ a, b }", "{ , }", "{ a ) }", "{ ( }", "{ [ }", "{ do a; while (b) c }", "{ do { } while (b) { } }", "{ print a getline }", "{ getline { } }", "{ else }", "{ in }", "{ while }", "{ a } else { b }"} {
		refuses(t, text, api.ErrSyntax, 1)
	}
	refuses(t, "{ a\n\n", api.ErrSyntax, 3)
	refuses(t, "{\n{\n}\n", api.ErrSyntax, 4)
	refuses(t, "BEGIN { a }\n\n}", api.ErrSyntax, 3)
}

// elseOf tells what is said of an else with a body: nothing of one without
// statements.
func elseOf(body string) string {
	if body == "{}" {
		return ""
	}
	return " else " + body
}

// P14.1: statements of one word.
func TestWords(t *testing.T) {
	for _, s := range []string{"break", "continue", "next"} {
		tellsStmt(t, s, s)
		for _, behind := range []string{" a", " 1", "()", " (a)", ", a", " = 1", "++", "[1]", " next", " { }", ")", " > \"f\""} {
			refusesStmt(t, s+behind)
		}
		refuses(t, s, api.ErrSyntax, 1)
		refuses(t, "{ "+s, api.ErrSyntax, 1)
		refuses(t, "{ "+s+"\n", api.ErrSyntax, 2)
	}
}

// P14.1: exit and return, with an expression and without.
func TestExitAndReturn(t *testing.T) {
	for _, s := range []string{"exit", "return"} {
		tellsStmt(t, s, s)
		for _, e := range [][2]string{{"a", "a"}, {"1", "1"}, {"-1", "(neg 1)"}, {"(a)", "a"}, {"(a, b) in t", "(in:t a b)"}, {"a = 1", "(= a 1)"}, {"a ? b : c", "(? a b c)"}, {"a > b", "(> a b)"}, {"a | getline", "(get:3 a)"}, {"getline", "(get:1)"}, {"a b", "(cat a b)"}, {"/a/", "/a/"}, {"++a", "(pre++ a)"}, {"! a", "(! a)"}, {"$1", "($ 1)"}, {"length", "(length)"}, {`"a"`, `"a"`}} {
			tellsStmt(t, s+" "+e[0], s+" "+e[1])
		}
		for _, behind := range []string{" a, b", " )", " ]", " ,", " in", " print", " exit", " = 1", " (a, b)", " * a", " { }", " :"} {
			refusesStmt(t, s+behind)
		}
		refuses(t, "{ "+s, api.ErrSyntax, 1)
		refuses(t, "{ "+s+" a", api.ErrSyntax, 1)
		refuses(t, "{ "+s+"\n", api.ErrSyntax, 2)
		tells(t, "{ "+s+"\na }", "rule {"+s+"; a}")
		tells(t, "{"+s+"}", "rule {"+s+"}")
	}
}

// P14.1: delete, with keys and without.
func TestDelete(t *testing.T) {
	for _, c := range [][2]string{{"delete t", "delete t"}, {"delete t[1]", "delete t 1"}, {"delete t [a, b]", "delete t a b"}, {"delete t[a,\n\nb, c]", "delete t a b c"}, {"delete t[a > b]", "delete t (> a b)"}, {"delete t[(a, b) in u]", "delete t (in:u a b)"}, {"delete t[t[a]]", "delete t (t[] a)"}, {"delete t[a = b]", "delete t (= a b)"}, {"delete NF", "delete NF"}} {
		tellsStmt(t, c[0], c[1])
	}
	for _, text := range []string{"delete", "delete 1", "delete (t)", "delete $t", "delete f(a)", "delete t, u", "delete t[]", "delete t[a", "delete t[a,]", "delete t[,a]", "delete t[a][b]", "delete t u", "delete t = 1", "delete t++", "delete length", "delete t[a] b", "delete \"t\"", "delete in", "delete t a]"} {
		refusesStmt(t, text)
	}
	refuses(t, "{ delete\nt }", api.ErrSyntax, 1)
	refuses(t, "{ delete t[\na] }", api.ErrSyntax, 1)
	refuses(t, "{ delete t[a\n] }", api.ErrSyntax, 1)
	refuses(t, "{ delete t\n[a] }", api.ErrSyntax, 2)
	refuses(t, "{ delete t", api.ErrSyntax, 1)
}

// P14.1: if, and where its else may stand.
func TestIfs(t *testing.T) {
	for _, c := range [][2]string{
		{"if (a) b", "if a {b}"}, {"if(a)b", "if a {b}"}, {"if (a)\nb", "if a {b}"}, {"if (a)\n\n# x\nb", "if a {b}"}, {"if (a) { b }", "if a {b}"}, {"if (a)\n{ b\nc }", "if a {b; c}"}, {"if (a) ;", "if a {}"}, {"if (a)\n\n;", "if a {}"}, {"if (a) {}", "if a {}"}, {"if (a) {{ b }}", "if a {{b}}"}, {"if (a > b) c", "if (> a b) {c}"}, {"if ((a, b) in t) c", "if (in:t a b) {c}"}, {"if (a = b) c", "if (= a b) {c}"}, {"if (a ? b : c) d", "if (? a b c) {d}"}, {"if ((getline) > 0) a", "if (> (get:1) 0) {a}"},
		{"if (a) b; else c", "if a {b} else {c}"}, {"if (a) b\nelse c", "if a {b} else {c}"}, {"if (a) b;\nelse c", "if a {b} else {c}"}, {"if (a) b\n;\n\n;;\nelse c", "if a {b} else {c}"}, {"if (a) b;;; else c", "if a {b} else {c}"}, {"if (a) { b } else c", "if a {b} else {c}"}, {"if (a) { b }\nelse c", "if a {b} else {c}"}, {"if (a) { b }; else c", "if a {b} else {c}"}, {"if (a) { b } ;\n ; else c", "if a {b} else {c}"}, {"if (a) ; else c", "if a {} else {c}"}, {"if (a) ;; else c", "if a {} else {c}"}, {"if (a)\n;\nelse\n\nc", "if a {} else {c}"},
		{"if (a) b; else\nc", "if a {b} else {c}"}, {"if (a) b; else { c; d }", "if a {b} else {c; d}"}, {"if (a) b; else ;", "if a {b}"}, {"if (a) b; else {}", "if a {b}"}, {"if (a) ; else ;", "if a {}"}, {"if (a) {} else {}", "if a {}"}, {"if (a) b # x\nelse # y\nc", "if a {b} else {c}"}, {"if (a) b; else{c}", "if a {b} else {c}"}, {"if (a) print; else print a", "if a {print:0} else {print:0 a}"}, {"if (a) print > \"f\"; else next", "if a {print:1 \"f\"} else {next}"},
		{"if (a) if (b) c; else d", "if a {if b {c} else {d}}"}, {"if (a) if (b) c; else d; else e", "if a {if b {c} else {d}} else {e}"}, {"if (a) { if (b) c } else d", "if a {if b {c}} else {d}"}, {"if (a) { if (b) c; } else d", "if a {if b {c}} else {d}"}, {"if (a) if (b) { c } else d", "if a {if b {c} else {d}}"}, {"if (a) if (b) c\n\n;else d\n;\nelse e", "if a {if b {c} else {d}} else {e}"}, {"if (a) if (b) ; else ; else c", "if a {if b {}} else {c}"},
		{"if (a) b; else if (c) d; else if (e) f; else g", "if a {b} else {if c {d} else {if e {f} else {g}}}"}, {"if (a) b; else if (c) d", "if a {b} else {if c {d}}"}, {"if (a) while (b) c; else d", "if a {while b {c}} else {d}"}, {"if (a) while (b) if (c) d; else e", "if a {while b {if c {d} else {e}}}"}, {"if (a) for (;;) if (c) d; else e; else f", "if a {for:0 {} {if c {d} else {e}}} else {f}"}, {"if (a) do b; while (c); else d", "if a {do {b} c} else {d}"}, {"if (a) do b; while (c)\nelse d", "if a {do {b} c} else {d}"},
	} {
		tells(t, "{ "+c[0]+"}", "rule {"+c[1]+"}")
		tells(t, "{ x; "+c[0]+"\n\n; y }", "rule {x; "+c[1]+"; y}")
		tells(t, "{ "+c[0]+"\n if (x) y }", "rule {"+c[1]+"; if x {y}}")
	}
	for _, text := range []string{"if", "if a", "if (", "if ()", "if (a", "if (a)", "if a) b", "if (a, b) c", "if (a;) b", "if (a) )", "if (a) b else c", "if (a) b; c; else d", "if (a) b; else", "if (a) b; else c; else d", "else", "else a", "if (a) ; else ; else ;", "if (a) else b", "if (a) { b } { c } else d", "if (a) {} else else b", "if () b", "if {a} b", "if [a] b", "if (a) (b", "if a b", "if ((a) b", "if (a)) b", "if (print) b", "if (a) ,"} {
		refusesStmt(t, text)
	}
	refuses(t, "{ if\n(a) b }", api.ErrSyntax, 1)
	refuses(t, "{ if (\na) b }", api.ErrSyntax, 1)
	refuses(t, "{ if (a\n) b }", api.ErrSyntax, 1)
	refuses(t, "{ if (a)\n}", api.ErrSyntax, 2)
	refuses(t, "{ if (a)\n\n", api.ErrSyntax, 3)
	refuses(t, "{ if (a) b\n\nelse }", api.ErrSyntax, 3)
	refuses(t, "{ if (a) b\nelse\n", api.ErrSyntax, 3)
	refuses(t, "{ if (a) b }\nelse c", api.ErrSyntax, 2)
	refuses(t, "{ { if (a) b } else c }", api.ErrSyntax, 1)
}

// P14.1: while.
func TestWhiles(t *testing.T) {
	for _, c := range [][2]string{
		{"while (a) b", "while a {b}"}, {"while(a)b", "while a {b}"}, {"while (a) ;", "while a {}"}, {"while (a)\n\nb", "while a {b}"}, {"while (a)\n;", "while a {}"}, {"while (a) { b; c }", "while a {b; c}"}, {"while (a) {}", "while a {}"}, {"while (a) while (b) c", "while a {while b {c}}"}, {"while (a > b) c", "while (> a b) {c}"}, {"while ((getline l < \"f\") > 0) n++", "while (> (get:10 l \"f\") 0) {(post++ n)}"}, {"while (\"c\" | getline) n++", "while (get:3 \"c\") {(post++ n)}"}, {"while (a) if (b) c; else d", "while a {if b {c} else {d}}"},
	} {
		tells(t, "{ "+c[0]+" }", "rule {"+c[1]+"}")
		tells(t, "{ "+c[0]+"\nx }", "rule {"+c[1]+"; x}")
	}
	for _, text := range []string{"while", "while a", "while ()", "while (a", "while (a)", "while (a, b) c", "while a) b", "while (a) )", "while (a;b) c", "while (a) b c; while", "while ((a, b)) c", "while (a) else b"} {
		refusesStmt(t, text)
	}
	refuses(t, "{ while\n(a) b }", api.ErrSyntax, 1)
	refuses(t, "{ while (a\n) b }", api.ErrSyntax, 1)
	refuses(t, "{ while (a)\n\n}", api.ErrSyntax, 3)
}

// P14.1: do, with terms ahead of while and without.
func TestDos(t *testing.T) {
	for _, c := range [][2]string{
		{"do a; while (b)", "do {a} b"}, {"do a\nwhile (b)", "do {a} b"}, {"do a;\n\n;while (b)", "do {a} b"}, {"do\n\na\nwhile (b)", "do {a} b"}, {"do { a } while (b)", "do {a} b"}, {"do { a }; while (b)", "do {a} b"}, {"do { a }\n\nwhile (b)", "do {a} b"}, {"do{}while(b)", "do {} b"}, {"do ; while (b)", "do {} b"}, {"do ;;\n; while (b)", "do {} b"}, {"do\n;\nwhile (b)", "do {} b"}, {"do do a; while (b); while (c)", "do {do {a} b} c"}, {"do do a\nwhile (b)\nwhile (c)", "do {do {a} b} c"}, {"do while (a) b; while (c)", "do {while a {b}} c"}, {"do if (a) b; while (c)", "do {if a {b}} c"}, {"do if (a) b; else c; while (d)", "do {if a {b} else {c}} d"}, {"do for (;;) ; while (a)", "do {for:0 {} {}} a"}, {"do { while (a) b; } while (c > d)", "do {while a {b}} (> c d)"}, {"do print a > \"f\"; while (b)", "do {print:1 a \"f\"} b"},
	} {
		tellsStmt(t, c[0], c[1])
	}
	for _, text := range []string{"do", "do a", "do a;", "do a; b", "do a while (b)", "do a; while", "do a; while (", "do a; while ()", "do a; while b", "do a; while (b) c", "do a; while (b) else", "do a; while (b, c)", "do { a }", "do { a } b", "do ;", "do while (a) b", "do { a } until (b)", "do (a) while (b)", "do a; while (b) { c }", "do a; b; while (c)", "do ; ; a; while (b)"} {
		refusesStmt(t, text)
	}
	refuses(t, "{ do a; while\n(b) }", api.ErrSyntax, 1)
	refuses(t, "{ do a\n\n}", api.ErrSyntax, 3)
	refuses(t, "{ do a; while (b\n) }", api.ErrSyntax, 1)
	tells(t, "{ do a; while (b); while (c) d }", "rule {do {a} b; while c {d}}")
	tells(t, "{ do a; while (b)\nc }", "rule {do {a} b; c}")
}

// P14.1: for of three parts, each there and not there.
func TestFors(t *testing.T) {
	for n := range 8 {
		pick := func(bit int, text string) string {
			if n&bit > 0 {
				return text
			}
			return ""
		}
		says := func(init, condition, step string) string {
			between := ""
			if n&5 == 5 {
				between = "; "
			}
			return "for:" + strconv.Itoa(n) + " {" + pick(1, init) + between + pick(4, step) + "}" + pick(2, " "+condition)
		}
		for _, c := range [][6]string{
			{"a", "a", "b", "b", "c", "c"}, {"i = 1", "(= i 1)", "i < 9", "(< i 9)", "i++", "(post++ i)"}, {"a > b", "(> a b)", "a in t", "(in:t a)", "x | getline", "(get:3 x)"}, {"(a, b) in t", "(in:t a b)", "/a/", "/a/", "(a)", "a"}, {"a in t", "(in:t a)", "(a in t)", "(in:t a)", "a in t", "(in:t a)"}, {"(k in t)", "(in:t k)", "getline", "(get:1)", "getline x", "(get:9 x)"}, {"a ? b : c", "(? a b c)", "- a", "(neg a)", "! a", "(! a)"}, {"f()", "(f())", "length", "(length)", "x = y = z", "(= x (= y z))"},
		} {
			init, condition, step := pick(1, c[0]), pick(2, c[2]), pick(4, c[4])
			want := says(c[1], c[3], c[5])
			for _, lines := range []string{"", "\n", "\n\n # x\n"} {
				tells(t, "{ for ("+init+";"+lines+condition+";"+lines+step+") d }", "rule {"+want+" {d}}")
				tells(t, "{ for("+init+" ; "+lines+condition+" ;"+step+")"+lines+"{ d; e } }", "rule {"+want+" {d; e}}")
				tells(t, "{ for ("+init+";"+condition+";"+lines+step+")"+lines+" ; x }", "rule {"+want+" {}; x}")
			}
			for _, text := range []string{"for (" + init + ";" + condition + ")", "for (" + init + ";" + condition + ";" + step, "for (" + init + ";" + condition + ";" + step + ")", "for (" + init + ";" + condition + ";" + step + ";) d", "for (" + init + ";" + condition + ";" + step + ", x) d", "for (x, " + init + ";" + condition + ";" + step + ") d", "for " + init + ";" + condition + ";" + step + ") d", "for [" + init + ";" + condition + ";" + step + "] d", "for (" + init + "," + condition + "," + step + ") d", "for (" + init + ";" + condition + ";" + step + ")) d"} {
				refusesStmt(t, text)
			}
			refuses(t, "{ for (\n"+init+";"+condition+";"+step+") d }", api.ErrSyntax, 1)
			refuses(t, "{ for ("+init+"\n;"+condition+";"+step+") d }", api.ErrSyntax, 1)
			if n&2 > 0 {
				refuses(t, "{ for ("+init+";"+condition+"\n;"+step+") d }", api.ErrSyntax, 1)
			}
			if n&4 > 0 {
				refuses(t, "{ for ("+init+";"+condition+";"+step+"\n) d }", api.ErrSyntax, 1)
			}
		}
	}
	for _, text := range []string{"for", "for (", "for ()", "for () a", "for (;) a", "for (;;", "for (;;)", "for ;; a", "for (;;;) a", "for (a) b", "for (a b; ; ; ) c", "for (;;) )", "for (;;) else a", "for (print;;) a", "for (;;delete a) b", "for (a; b c", "for (next;;) ;"} {
		refusesStmt(t, text)
	}
	refuses(t, "{ for\n(;;) a }", api.ErrSyntax, 1)
	refuses(t, "{ for (;;)\n\n}", api.ErrSyntax, 3)
}

// P14.1: for that goes through an array, and what only looks like one.
func TestForIns(t *testing.T) {
	for _, c := range [][2]string{
		{"for (k in t) a", "for k in t {a}"}, {"for(k in t)a", "for k in t {a}"}, {"for (k in t) ;", "for k in t {}"}, {"for (k in t)\n\n;", "for k in t {}"}, {"for (k in t)\n\na", "for k in t {a}"}, {"for (k in t) { a; b }", "for k in t {a; b}"}, {"for (k in t) for (l in u) a", "for k in t {for l in u {a}}"}, {"for (k in k) a", "for k in k {a}"}, {"for (k in t) if (a) b; else c", "for k in t {if a {b} else {c}}"}, {"for (k \\\n in t) a", "for k in t {a}"},
		{"for (k in t; ; ) a", "for:1 {(in:t k)} {a}"}, {"for (k in t;;) ;", "for:1 {(in:t k)} {}"}, {"for ((k in t);;) a", "for:1 {(in:t k)} {a}"}, {"for ((k in t); b; c) a", "for:7 {(in:t k); c} b {a}"}, {"for ((i, j) in t;;) a", "for:1 {(in:t i j)} {a}"}, {"for (k in t in u;;) a", "for:1 {(in:u (in:t k))} {a}"}, {"for (k in t ? b : c;;) a", "for:1 {(? (in:t k) b c)} {a}"}, {"for (k in t && b;;) a", "for:1 {(&& (in:t k) b)} {a}"}, {"for ((k) in t;;) a", "for:1 {(in:t k)} {a}"}, {"for (k[1] in t;;) a", "for:1 {(in:t (k[] 1))} {a}"}, {"for (1 in t;;) a", "for:1 {(in:t 1)} {a}"}, {"for ($k in t;;) a", "for:1 {(in:t ($ k))} {a}"}, {"for (;k in t;) a", "for:2 {} (in:t k) {a}"}, {"for (;;k in t) a", "for:4 {(in:t k)} {a}"},
	} {
		tells(t, "{ "+c[0]+" }", "rule {"+c[1]+"}")
		tells(t, "{ "+c[0]+"\nx }", "rule {"+c[1]+"; x}")
	}
	for _, text := range []string{"for (k in t", "for (k in t)", "for (k in) a", "for (in t) a", "for (k in 1) a", "for (k in t[1]) a", "for (k in f(t)) a", "for (k in $t) a", "for (k in (t)) a", "for ((k in t)) a", "for ((i, j) in t) a", "for (1 in t) a", "for (k[1] in t) a", "for ($k in t) a", "for ((k) in t) a", "for (k in t;) a", "for (k in t, u) a", "for (k in t in u) a", "for (k, l in t) a", "for (k l in t) a", "for k in t a", "for (k in t)) a", "for (k in length) a", "for (in in t) a", "for (k of t) a", "for (k in t a", "for (k = 1 in t) a", "for (k in t) )", "for (k in t) else a", "for (f(k) in t) a", "for (!k in t) a"} {
		refusesStmt(t, text)
	}
	refuses(t, "{ for (\nk in t) a }", api.ErrSyntax, 1)
	refuses(t, "{ for (k\nin t) a }", api.ErrSyntax, 1)
	refuses(t, "{ for (k in\nt) a }", api.ErrSyntax, 1)
	refuses(t, "{ for (k in t\n) a }", api.ErrSyntax, 1)
	refuses(t, "{ for (k in t)\n}", api.ErrSyntax, 2)
}

// P14.1: all kinds of statements, wherever one may stand.
func TestStatements(t *testing.T) {
	for _, c := range [][2]string{{"a", "a"}, {"a = 1", "(= a 1)"}, {"a++", "(post++ a)"}, {"/a/", "/a/"}, {"-1", "(neg 1)"}, {`"a"`, `"a"`}, {"(a)", "a"}, {"(a, b) in t", "(in:t a b)"}, {"a > b", "(> a b)"}, {"a | getline", "(get:3 a)"}, {"getline", "(get:1)"}, {"getline x < \"f\"", "(get:10 x \"f\")"}, {"f(a)", "(f() a)"}, {"length", "(length)"}, {"$1", "($ 1)"}, {"a ? b : c", "(? a b c)"}, {"print", "print:0"}, {"print a, b", "print:0 a b"}, {"printf a", "printf:0 a"}, {"print > \"f\"", "print:1 \"f\""}} {
		tellsStmt(t, c[0], c[1])
	}
}

// linesOf tells the lines of statements and of those within them, in order.
func linesOf(stmts []api.Stmt) []int {
	var lines []int
	for _, s := range stmts {
		lines = append(lines, s.Line)
		lines = append(lines, linesOf(s.Body)...)
		lines = append(lines, linesOf(s.Else)...)
	}
	return lines
}

// P14.1: Line of statements and items is that of their first token.
func TestLines(t *testing.T) {
	for _, c := range []struct {
		text         string
		items, stmts []int
	}{
		{"a", []int{1}, nil},
		{"\n# x\n\\\n a,\n\nb\n\n{\nc\n}", []int{4, 8}, []int{9}},
		{"\nBEGIN {\n\na\n;b; c\n}\nEND \\\n{ d }", []int{2, 7}, []int{4, 5, 5, 8}},
		{"function f(a,\nb)\n\n{ c\n}\n\n\ng(\\\n)\n", []int{1, 8}, []int{4}},
		{"a,\n\nb {\n{\n\n{ c } } }", []int{1}, []int{4, 6, 6}},
		{"{ if (a)\n\nb\nelse\n{ c\n\nd } }", []int{1}, []int{1, 3, 5, 7}},
		{"{ if \\\n(a) { b } else\n\nif (c)\n;\nelse d }", []int{1}, []int{1, 2, 4, 6}},
		{"{\nwhile (a ||\n\nb) c }", []int{1}, []int{2, 4}},
		{"{\ndo\n\na\n\nwhile (\\\nb)\nc }", []int{1}, []int{2, 4, 8}},
		{"{ for (a;\nb;\n\nc)\n\nd }", []int{1}, []int{1, 6, 1, 4}},
		{"{ for (\\\na;;\n\\\nb)\n;\nc }", []int{1}, []int{1, 2, 4, 6}},
		{"{ for (k in\\\nt)\n\na }", []int{1}, []int{1, 4}},
		{"{\nbreak;continue\nnext\nexit\nexit a\nreturn \\\nb\ndelete t; delete \\\nt[a,\n\nb]\nc }", []int{1}, []int{2, 2, 3, 4, 5, 6, 8, 8, 12}},
		{"{\nprint\nprint a,\n\nb\nprint (a,\nb) > \\\n\"f\"\nprintf a\n\n}", []int{1}, []int{2, 3, 6, 9}},
		{"{ a }\n{ b }; { c }\n\nd; e\n", []int{1, 2, 2, 4, 4}, []int{1, 2, 2}},
		{"{ x = f(a,\n\nb); c }", []int{1}, []int{1, 3}},
	} {
		p, _ := held(t, c.text)
		var items, stmts []int
		for _, item := range p.Items {
			items = append(items, item.Line)
			stmts = append(stmts, linesOf(item.Body)...)
		}
		if !slices.Equal(items, c.items) || !slices.Equal(stmts, c.stmts) {
			t.Errorf("of %q the items' lines are %v, the statements' %v; want %v, %v", c.text, items, stmts, c.items, c.stmts)
		}
	}
}
