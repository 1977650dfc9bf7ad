package parse

import (
	"strconv"
	"strings"
	"testing"

	"winnower/api"
)

// targets are each sign of where print prints to, with its N.
func targets() []string {
	return []string{"", ">", ">>", "|"}
}

// P14.1: print and printf with args, in parentheses and not, and with where to.
func TestPrints(t *testing.T) {
	args := [][2]string{
		{"a", "a"}, {"a, b", "a b"}, {"a, b, c, d", "a b c d"}, {"a,\nb,\n\n c", "a b c"}, {"(a)", "a"}, {"((a))", "a"}, {"(a)(b)", "(cat a b)"}, {"(a) b", "(cat a b)"}, {"(a) (b) c", "(cat (cat a b) c)"}, {"(a) + b", "(+ a b)"}, {"(a) - b", "(- a b)"}, {"(a) * b, c", "(* a b) c"}, {"(a) ^ b", "(^ a b)"}, {"(a), b", "a b"}, {"(a), (b)", "a b"}, {"(a), b, (c)", "a b c"}, {"a, (b)", "a b"}, {"(a + b) * c", "(* (+ a b) c)"},
		{"(a) ? b : c", "(? a b c)"}, {"(a) in t", "(in:t a)"}, {"(a, b) in t", "(in:t a b)"}, {"(a, b) in t, c", "(in:t a b) c"}, {"((a, b) in t)", "(in:t a b)"}, {"(a, b) in t in u", "(in:u (in:t a b))"}, {"(a, b) in t c", "(cat (in:t a b) c)"}, {"(a) ~ b", "(~ a b)"}, {"(a) < b", "(< a b)"}, {"(a) == b", "(== a b)"}, {"(a) >= b", "(>= a b)"}, {"(a) && b", "(&& a b)"}, {"(a) || b, c", "(|| a b) c"}, {"(a > b)", "(> a b)"}, {"(a > b) c", "(cat (> a b) c)"}, {"(a > b), c", "(> a b) c"}, {"a, (b > c)", "a (> b c)"},
		{"t[a > b]", "(t[] (> a b))"}, {"f(a > b)", "(f() (> a b))"}, {"length(a > b)", "(length (> a b))"}, {"$(a > b)", "($ (> a b))"}, {"a (b > c)", "(cat a (> b c))"}, {"((a) > b)", "(> a b)"}, {"t[a > b], c", "(t[] (> a b)) c"}, {"(a | getline)", "(get:3 a)"}, {"(a | getline x)", "(get:11 x a)"}, {"f(a | getline)", "(f() (get:3 a))"}, {"t[a | getline]", "(t[] (get:3 a))"}, {"a, (b | getline), c", "a (get:3 b) c"}, {"(a | getline), b", "(get:3 a) b"},
		{"getline", "(get:1)"}, {"getline x", "(get:9 x)"}, {"getline < a", "(get:2 a)"}, {"getline x < a, b", "(get:10 x a) b"}, {"getline < (a > b)", "(get:2 (> a b))"}, {"a = b", "(= a b)"}, {"a = b, c = d", "(= a b) (= c d)"}, {"a = (b > c)", "(= a (> b c))"}, {"a ? b : c", "(? a b c)"}, {"a ? (b > c) : (d > e)", "(? a (> b c) (> d e))"}, {"a b c", "(cat (cat a b) c)"}, {"a < b", "(< a b)"}, {"a >= b", "(>= a b)"}, {"a != b", "(!= a b)"}, {"a ~ b", "(~ a b)"}, {"a in t", "(in:t a)"}, {"! a", "(! a)"}, {"-a", "(neg a)"}, {"-(a)", "(neg a)"}, {"!(a, b) in t", "(! (in:t a b))"}, {"++a, b--", "(pre++ a) (post-- b)"}, {"/a/", "/a/"}, {"1, \"b\"", "1 \"b\""}, {"$1, $2", "($ 1) ($ 2)"}, {"length", "(length)"}, {"length, length", "(length) (length)"}, {"(length)", "(length)"}, {"a || b && c", "(|| a (&& b c))"}, {"a ||\nb", "(|| a b)"}, {"a ?\nb :\nc", "(? a b c)"},
	}
	// More than one of them in parentheses are no expression by themselves.
	lists := [][2]string{{"(a, b)", "a b"}, {"(a,\n\nb)", "a b"}, {"( a , b , c )", "a b c"}, {"((a, b) in t, c)", "(in:t a b) c"}, {"(a > b, c > d)", "(> a b) (> c d)"}}
	cats := [][2]string{{`"f"`, `"f"`}, {"a", "a"}, {"a b", "(cat a b)"}, {`"f" "g" h`, `(cat (cat "f" "g") h)`}, {"a + b", "(+ a b)"}, {"a + b c * d", "(cat (+ a b) (* c d))"}, {"-a", "(neg a)"}, {"! a", "(! a)"}, {"$1", "($ 1)"}, {"(a > b)", "(> a b)"}, {"(a | getline)", "(get:3 a)"}, {"t[a > b]", "(t[] (> a b))"}, {"f(a)", "(f() a)"}, {"a++", "(post++ a)"}, {"++a", "(pre++ a)"}, {"a ^ b", "(^ a b)"}, {"/a/", "/a/"}, {"(a, b) in t", "(in:t a b)"}, {"getline", "(get:1)"}, {"getline x < a", "(get:10 x a)"}, {"(a = b)", "(= a b)"}, {"length", "(length)"}}
	for _, word := range []string{"print", "printf"} {
		for i, a := range append(args, lists...) {
			tellsStmt(t, word+" "+a[0], word+":0 "+a[1])
			for n, target := range targets() {
				if n > 0 {
					tellsStmt(t, word+" "+a[0]+" "+target+` "f"`, word+":"+strconv.Itoa(n)+" "+a[1]+` "f"`)
				}
				if n > 0 && i < len(args) {
					tells(t, "{"+word+"("+a[0]+")"+target+"f g}", "rule {"+word+":"+strconv.Itoa(n)+" "+a[1]+" (cat f g)}")
				}
				if i >= len(args) {
					refuses(t, "{"+word+"("+a[0]+")"+target+"}", api.ErrSyntax, 1+strings.Count(a[0], "\n"))
				}
			}
		}
		for n, target := range targets() {
			for _, c := range cats {
				if n > 0 {
					tellsStmt(t, word+" x "+target+" "+c[0], word+":"+strconv.Itoa(n)+" x "+c[1])
					tellsStmt(t, word+" (x, y) "+target+" "+c[0], word+":"+strconv.Itoa(n)+" x y "+c[1])
				}
			}
		}
	}
	for n, target := range targets() {
		want := "print:" + strconv.Itoa(n)
		if n == 0 {
			tellsStmt(t, "print", want)
			continue
		}
		for _, c := range cats {
			tellsStmt(t, "print "+target+" "+c[0], want+" "+c[1])
		}
	}
}

// P14.1: what print and printf do not let stand.
func TestNoPrints(t *testing.T) {
	for _, word := range []string{"print", "printf"} {
		for _, target := range targets()[1:] {
			for _, text := range []string{" a " + target, " a " + target + " )", " a " + target + " b, c", " a " + target + " b ? c : d", " a " + target + " b = c", " a " + target + " b || c", " a " + target + " b in t", " a " + target + " b ~ c", " a " + target + " b < c", " a " + target + " b > c", " a " + target + " b >> c", " a " + target + " b | c", " a " + target + " b | getline", " a " + target + " " + target + " b", " (a) " + target, " (a, b) " + target, " (a, b) " + target + " c, d", " (a, b) " + target + " (c, d)", " a, " + target + " b", " ( " + target + " b)", " a " + target + " in", " (a " + target + ")"} {
				refusesStmt(t, word+text)
			}
			refuses(t, "{ "+word+" a "+target+"\nb }", api.ErrSyntax, 1)
			refuses(t, "{ "+word+" (a, b) "+target+" \\\n\\\n}", api.ErrSyntax, 3)
			refuses(t, "{ "+word+" a\n"+target+" b }", api.ErrSyntax, 2)
		}
		for _, text := range []string{" a,", " , a", " a,,b", " (", " ()", " (a", " (a,)", " (, a)", " (a,, b)", " (a))", " (a, b) c", " (a, b)(c)", " (a, b), c", " (a, b) + c", " (a, b) ~ c", " (a, b) = c", " (a, b) ? c : d", " (a, b) in", " (a, b) in 1", " ((a, b))", " ((a, b), c)", " (a, b) in t = c", " (a) = b", " (a)++", " (a) )", " a )", " a ]", " a ? b > c : d", " a ? b : c, > d", " a = b, in", " a b, c d e f,", " print", " a print b", " (a) print b", " (a; b)", " (a b", " a | getline > b | c", " f(a > b", " t[a > b"} {
			refusesStmt(t, word+text)
		}
		refuses(t, "{ "+word+" (\na) }", api.ErrSyntax, 1)
		refuses(t, "{ "+word+" (a\n) }", api.ErrSyntax, 1)
		refuses(t, "{ "+word+" a\n, b }", api.ErrSyntax, 2)
		refuses(t, "{ "+word+" (a)\n(b) > c, d }", api.ErrSyntax, 2)
		refuses(t, word+" a", api.ErrSyntax, 1)
		refuses(t, "{ "+word+" a", api.ErrSyntax, 1)
	}
	for _, text := range []string{"printf", "printf > a", "printf >> a", "printf | a", "printf ()", "printf ;"} {
		refusesStmt(t, text)
	}
	refuses(t, "{ printf\na }", api.ErrSyntax, 1)
	tells(t, "{ print\na }", "rule {print:0; a}")
}

// P14.1: print mode is left within parentheses, brackets and arguments, and comes
// back behind them.
func TestPrintMode(t *testing.T) {
	for _, c := range [][2]string{
		{"print a > b", "print:1 a b"}, {"print (a) > b", "print:1 a b"}, {"print (a > b) > c", "print:1 (> a b) c"}, {"print f(a) > b", "print:1 (f() a) b"}, {"print t[a] > b", "print:1 (t[] a) b"}, {"print f(a > b) > c", "print:1 (f() (> a b)) c"}, {"print t[a > b] > c", "print:1 (t[] (> a b)) c"}, {"print length(a > b) > c", "print:1 (length (> a b)) c"}, {"print length > c", "print:1 (length) c"}, {"print (a, b) in t > c", "print:1 (in:t a b) c"}, {"print ((a > b), c) in t > d", "print:1 (in:t (> a b) c) d"}, {"print $(a > b) > c", "print:1 ($ (> a b)) c"},
		{"print a | b", "print:3 a b"}, {"print a | getline", "print:3 a (get:1)"}, {"print a | getline x", "print:3 a (get:9 x)"}, {"print (a | getline) | b", "print:3 (get:3 a) b"}, {"print f(a | getline) | b", "print:3 (f() (get:3 a)) b"}, {"print t[a | getline x] | b", "print:3 (t[] (get:11 x a)) b"}, {"print f(t[(a > b)] > c, d | getline) > e", "print:1 (f() (> (t[] (> a b)) c) (get:3 d)) e"}, {"print a, b ? c : d > e", "print:1 a (? b c d) e"}, {"print a ? b : c > d", "print:1 (? a b c) d"}, {"print a = b > c", "print:1 (= a b) c"}, {"print a || b && c > d", "print:1 (|| a (&& b c)) d"}, {"print a ~ b > c", "print:1 (~ a b) c"}, {"print a < b > c", "print:1 (< a b) c"}, {"print !a > b", "print:1 (! a) b"},
		{"print a > (b > c)", "print:1 a (> b c)"}, {"print a > f(b > c)", "print:1 a (f() (> b c))"}, {"print a; b > c", "print:0 a; (> b c)"}, {"print a > b; c > d; e | getline", "print:1 a b; (> c d); (get:3 e)"}, {"print (a); x = b > c", "print:0 a; (= x (> b c))"}, {"print (a)(b); x = b | getline", "print:0 (cat a b); (= x (get:3 b))"}, {"print(1)(2)>\"f\"", "print:1 (cat 1 2) \"f\""}, {"print (1)>(2)", "print:1 1 2"},
	} {
		tells(t, "{ "+c[0]+" }", "rule {"+c[1]+"}")
		tells(t, "{ "+c[0]+"\na > b; a | getline }", "rule {"+c[1]+"; (> a b); (get:3 a)}")
		tells(t, "{ "+c[0]+"; if (a > b) c | getline }\na > b, c | getline", "rule {"+c[1]+"; if (> a b) {(get:3 c)}} & rule (> a b) (get:3 c)")
		tells(t, "{ for (a > b; b > c; c > d) "+c[0][:5]+" }", "rule {for:7 {(> a b); (> c d)} (> b c) {print:0}}")
	}
	for _, text := range []string{"print a > b > c", "print a | b | c", "print a > b | c", "print (a) > b > c", "print a ? b > c : d", "print a > b ? c : d", "print (a > b", "print t[a] > b > c", "print f(a) | getline | b", "print a | b | getline", "print (a, b) > c > d", "print a > b, c"} {
		refusesStmt(t, text)
	}
}
