package show

import (
	"strings"
	"testing"

	"winnower/api"
	"winnower/parse"
)

// sources have each rule of chapter 14's grammar, and the programs of DOC.md.
func sources() []string {
	return []string{
		"; \n a \n ; b , \n c { d } { e } BEGIN { } END { } ;",
		"function f(a, \n b) \n { return a } function f () { }",
		"BEGIN { ; a ; b \n ; { c } } a , b",
		"{ if (a) \n b ; else \n { c } if (d) ; }",
		"{ if (a) { b } \n ; else if (c) d }",
		"{ if (a) if (b) c; else d }",
		"{ if (a) { if (b) c } else d }",
		"{ while (a) \n b \n while (c) ; while (d) { } }",
		"{ do \n a ; \n while (b) ; do { c } while (d) \n do ; while (e) }",
		"{ for (a in b) \n c ; for (a in b ; ; ) { } }",
		"{ for (a ; \n b ; \n c) \n d ; for ( ; ; ) ; }",
		"{ for ((a, b) in c ; d in e ; ) ; for ((a in b) ; ; c) { } }",
		"{ break ; continue \n next ; exit ; exit a \n return ; return b }",
		"{ delete a ; delete a[b] \n delete a[b, \n c] }",
		"{ print ; print a ; print a , \n b ; print (a , \n b) ; print (a) b }",
		"{ print a > b ; print (a, b) >> c d \n print | e ; print (a)(b) > c }",
		"{ print (a, b) in c ; print (a > b) > c ; print a , (b | getline) | c }",
		"{ printf a ; printf (a, b) ; printf a , b > c ; printf (a) | b c }",
		"{ a = b += c ; $a -= b[c] *= d \n a /= b %= c ^= d }",
		"{ a ? \n b : \n c ; a || \n b && \n c ; a in b in c }",
		"{ a ~ b ; a !~ b ; a < b ; a <= b ; a == b ; a != b ; a > b ; a >= b }",
		`{ a | getline ; a b | getline c | getline $d ; getline ; getline a ; getline a < b ; getline < "f" }`,
		"{ a b 1 \"s\" f(a) substr(a) length $b (c) }",
		"{ a + b - c * d / e % - f ^ - ! g ^ h }",
		"{ ! - + a ; ++a ; --$b ; a++ ; $b-- ; a[b]++ }",
		"{ /a/ ; a ~ /=/ ; ! /b/ ; a / b / c ; f(/d/, \n 1e3) }",
		"{ (a) ; (a, \n b) in c ; a[b, \n c] ; f() ; length () ; length ; gsub(a, b) }",
		"{ $++a ; $-a ; $+!a ; $$a ; $(a) ; $a++ ; $a[b] = c }",
		"a ~ b , \n c in d { print $a } /r/ { } /=/",
		"{ x = \"\\a\\b\\f\\n\\r\\t\\v\\0\\18\\377\\q\\/\\\"\\\\\" ; 0.1e-5 ; .5 ; 5. ; 1e308 ; 00012 } # a remark",
		"{ n += $1; t[$2]++ } END { print n; for (k in t) print k, t[k] }",
		"BEGIN { OFS = \"-\" } { $2 = \"x\"; print; NF = 4; print; print NF, $1 }",
		"{ n++ } END { print n, NR }",
		"function f(n, a) { if (n < 2) return 1; a[n] = 1; return n * f(n - 1, a) }\nBEGIN { print f(5, t); for (k in t) s = s k; print s }",
		"/a/, /b/ { print \"in\", $0; next } { print \"out\", $0 }",
		"BEGIN { while ((getline l < \"f\") > 0) n++; \"date\" | getline d; print n, d > \"o\"; close(\"o\"); getline x < \"o\"; print x }",
		"BEGIN { print 0.1 + 0.2, 1e6, 1e20, \"10\" < 9, 10 < 9; printf \"%5.2f|%-4d|%c|%s\\n\", 3.14159, 42, 65, 1 / 4 }",
		"BEGIN { s = \"banana\"; n = gsub(/a/, \"<&>\", s); print n, s; match(\"foobar\", /o+/); print RSTART, RLENGTH; print split(\"a:b:c\", t, \":\"), t[3], substr(\"hello\", 2, 3) }",
		"{ if ($1 == \"q\") exit 3; print } END { print \"bye\" }",
		"BEGIN { print > \"a\"; print > \"b\" }",
		"",
	}
}

// P15.2: what is parsed is shown, and what is shown is parsed to the same program,
// however what was parsed stood there.
func TestSourcesBack(t *testing.T) {
	for _, text := range sources() {
		p, fault := parse.Parse(text)
		if fault.Err != api.OK {
			t.Errorf("Parse(%s) has %+v", brief(text), fault)
			continue
		}
		held(t, p)
		shown, _ := Show(p)
		// What is shown is no less right behind what else is shown.
		more, _ := parse.Parse("{ a }\n" + text)
		held(t, more)
		if again, err := Show(more); err != api.OK || again != "{\n\ta\n}\n"+shown {
			t.Errorf("Show of more than %s = %s, %d", brief(text), brief(again), err)
		}
	}
}

// P15.2: the lines of what is parsed back are those that were shown.
func TestLinesBack(t *testing.T) {
	p := items(braced(rule(variable("a")), bare(variable("s")), has(stmt(api.SWhile, variable("a")), stmt(api.SNext)), stmt(api.SBreak)), rule(variable("b")), api.Item{Kind: api.IEnd})
	text, _ := Show(p)
	back, fault := parse.Parse(text)
	if fault.Err != api.OK || len(back.Items) != 3 || len(back.Items[0].Body) != 3 {
		t.Fatalf("%+v, %+v", back, fault)
	}
	body := back.Items[0].Body
	lines := []int{back.Items[0].Line, body[0].Line, body[1].Line, body[1].Body[0].Line, body[2].Line, back.Items[1].Line, back.Items[2].Line}
	for i, want := range []int{1, 2, 3, 4, 6, 8, 9} {
		if lines[i] != want {
			t.Errorf("line %d at %d, want %d", lines[i], i, want)
		}
	}
}

// Chapter 15: each line ends by a byte 10, behind a tab for each level, and has no
// blank at its end.
func TestFormOfLines(t *testing.T) {
	w := wild{seeded()}
	for range 2000 {
		text, err := Show(w.program())
		if err != api.OK {
			continue
		}
		level := 0
		for line := range strings.Lines(text) {
			if !strings.HasSuffix(line, "\n") {
				t.Fatalf("%s ends without a byte 10", brief(line))
			}
			line = strings.TrimSuffix(line, "\n")
			said := strings.TrimLeft(line, "\t")
			if strings.HasPrefix(said, "}") {
				level--
			}
			if len(line)-len(said) != level || strings.HasSuffix(line, " ") || strings.HasPrefix(said, " ") {
				t.Fatalf("level %d: %s", level, brief(line))
			}
			if strings.HasSuffix(line, "{") {
				level++
			}
		}
		if level != 0 {
			t.Fatalf("level %d at the end of %s", level, brief(text))
		}
	}
}
