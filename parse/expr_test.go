package parse

import (
	"slices"
	"strings"
	"testing"

	"winnower/api"
)

// infix is a sign between two expressions: the higher its level, the more it
// binds; to which side it binds beside one of its level (n: to none).
type infix struct {
	sign, head string
	level      int
	side       byte
}

func infixes() []infix {
	all := []infix{{"||", "||", 3, 'l'}, {"&&", "&&", 4, 'l'}, {"", "cat", 9, 'l'}, {"^", "^", 13, 'r'}}
	for _, row := range []struct {
		signs string
		level int
		side  byte
	}{{"~ !~", 6, 'n'}, {"< <= == != > >=", 7, 'n'}, {"+ -", 10, 'l'}, {"* / %", 11, 'l'}} {
		for _, sign := range strings.Fields(row.signs) {
			all = append(all, infix{sign, sign, row.level, row.side})
		}
	}
	return all
}

func assignSigns() []string {
	return []string{"=", "+=", "-=", "*=", "/=", "%=", "^="}
}

// P14.1: each sign between two beside each other one: which binds first, and to
// which side; with parentheses that does which they stand around.
func TestInfixPairs(t *testing.T) {
	if n := len(infixes()); n != 17 {
		t.Fatal(n, "signs")
	}
	for _, x := range infixes() {
		tellsExpr(t, "a "+x.sign+" b", "("+x.head+" a b)")
		for _, y := range infixes() {
			text := "a " + x.sign + " b " + y.sign + " c"
			left := "(" + y.head + " (" + x.head + " a b) c)"
			right := "(" + x.head + " a (" + y.head + " b c))"
			switch {
			case x.level > y.level || x.level == y.level && x.side == 'l':
				tellsExpr(t, text, left)
			case x.level < y.level || x.side == 'r':
				tellsExpr(t, text, right)
			default:
				refusesExpr(t, text)
			}
			tellsExpr(t, "(a "+x.sign+" b) "+y.sign+" c", left)
			tellsExpr(t, "a "+x.sign+" (b "+y.sign+" c)", right)
		}
	}
}

// P14.1: four in a row of one sign.
func TestInfixRows(t *testing.T) {
	for _, x := range infixes() {
		text := "a " + x.sign + " b " + x.sign + " c " + x.sign + " d"
		switch h := "(" + x.head + " "; x.side {
		case 'l':
			tellsExpr(t, text, h+h+h+"a b) c) d)")
		case 'r':
			tellsExpr(t, text, h+"a "+h+"b "+h+"c d)))")
		default:
			refusesExpr(t, text)
		}
	}
	tellsExpr(t, "a || b && c ~ d < e f + g * h ^ i", "(|| a (&& b (~ c (< d (cat e (+ f (* g (^ h i))))))))")
	tellsExpr(t, "a ^ b * c + d e < f ~ g && h || i", "(|| (&& (~ (< (cat (+ (* (^ a b) c) d) e) f) g) h) i)")
}

// P14.1: a sign between two has one on each side, and takes lines' ends behind
// it, if it is || or &&.
func TestInfixAlone(t *testing.T) {
	for _, x := range infixes() {
		if x.sign == "" {
			continue
		}
		refusesExpr(t, "a "+x.sign)
		refusesExpr(t, "(a "+x.sign+")")
		switch x.sign {
		case "/": // What stands behind one, and ahead of all, is a pattern.
			refuses(t, "{ a / / b }", api.ErrToken, 1)
			refuses(t, "{ (/ a) }", api.ErrToken, 1)
		case "+", "-":
			refusesExpr(t, "a "+x.sign+" "+x.sign)
		default:
			refusesExpr(t, "a "+x.sign+" "+x.sign+" b")
			refusesExpr(t, "("+x.sign+" a)")
		}
		for _, more := range []string{"\n", "\n\n \n"} {
			text := "{ a " + x.sign + more + "b }"
			if x.sign == "||" || x.sign == "&&" {
				tells(t, text, "rule {("+x.head+" a b)}")
			} else {
				refuses(t, text, api.ErrSyntax, 1)
			}
		}
		refuses(t, "{ a "+x.sign+" ; b }", api.ErrSyntax, 1)
		if x.sign != "+" && x.sign != "-" && x.sign != "/" {
			refuses(t, "{ a\n"+x.sign+" b }", api.ErrSyntax, 2)
		}
	}
}

// P14.1: = and its like: of an lvalue that stands by itself, and to the right.
func TestAssigns(t *testing.T) {
	lvalues := [][2]string{{"x", "x"}, {"x[1]", "(x[] 1)"}, {"x[a, b]", "(x[] a b)"}, {"$1", "($ 1)"}, {"$x", "($ x)"}, {"$$x", "($ ($ x))"}, {"$x[1]", "($ (x[] 1))"},
		{"$++x", "($ (pre++ x))"}, {"$-x", "($ (neg x))"}, {"$(a + b)", "($ (+ a b))"}, {"$NF", "($ NF)"}, {"$f(x)", "($ (f() x))"}, {"$length", "($ (length))"}, {"$/a/", "($ /a/)"}}
	for _, sign := range assignSigns() {
		for _, l := range lvalues {
			tellsExpr(t, l[0]+" "+sign+" b", "("+sign+" "+l[1]+" b)")
			tellsExpr(t, l[0]+" "+sign+" b ? c : d", "("+sign+" "+l[1]+" (? b c d))")
			tellsExpr(t, l[0]+" "+sign+" b || c d in t", "("+sign+" "+l[1]+" (|| b (in:t (cat c d))))")
			tellsExpr(t, "("+l[0]+" "+sign+" b) c", "(cat ("+sign+" "+l[1]+" b) c)")
			refusesExpr(t, "("+l[0]+") "+sign+" b")
			refusesExpr(t, "(("+l[0]+")) "+sign+" b")
			refusesExpr(t, "-"+l[0]+" "+sign+" b")
			refusesExpr(t, "1 + "+l[0]+" "+sign+" b")
			for _, other := range assignSigns() {
				tellsExpr(t, l[0]+" "+sign+" y "+other+" b", "("+sign+" "+l[1]+" ("+other+" y b))")
				tellsExpr(t, "y "+other+" "+l[0]+" "+sign+" b", "("+other+" y ("+sign+" "+l[1]+" b))")
			}
		}
		for _, none := range []string{"1", `"a"`, "f(x)", "length", "length(x)", "x y", "x + y", "x ^ y", "x in t", "(x, y) in t", "x ~ y", "x < y", "x || y", "x && y",
			"x++", "--x", "! x", "+ x", "- x", "getline", "getline x", "getline < x", "x | getline", "x | getline y", "()"} {
			refusesExpr(t, none+" "+sign+" b")
			refusesExpr(t, "("+none+") "+sign+" b")
		}
		refusesExpr(t, "x "+sign)
		refuses(t, "{ x "+sign+"\nb }", api.ErrSyntax, 1)
		refuses(t, "{ x "+sign+"; b }", api.ErrSyntax, 1)
		// Where an expression begins, /= begins a pattern.
		none := map[bool]api.Errno{false: api.ErrSyntax, true: api.ErrToken}[sign == "/="]
		refuses(t, "{ "+sign+" x }", none, 1)
		refuses(t, "{ ("+sign+" x) }", none, 1)
		refuses(t, "{ x\n"+sign+" b }", none, 2)
		tellsExpr(t, "a ? x "+sign+" b : y "+sign+" c", "(? a ("+sign+" x b) ("+sign+" y c))")
		tellsExpr(t, "x ? y : z "+sign+" c", "(? x y ("+sign+" z c))")
		refusesExpr(t, "x ? y : 1 "+sign+" c")
		tellsExpr(t, "f(x "+sign+" a, y "+sign+" b)", "(f() ("+sign+" x a) ("+sign+" y b))")
	}
	for _, x := range infixes() {
		tellsExpr(t, "x = a "+x.sign+" b", "(= x ("+x.head+" a b))")
		tellsExpr(t, "a "+x.sign+" (x = b)", "("+x.head+" a (= x b))")
		refusesExpr(t, "a "+x.sign+" x = b")
	}
}

// P14.1: ? and : in each place, with lines' ends behind them.
func TestConds(t *testing.T) {
	for _, c := range [][2]string{
		{"a ? b : c", "(? a b c)"}, {"a ? b : c ? d : e", "(? a b (? c d e))"}, {"a ? b ? c : d : e", "(? a (? b c d) e)"}, {"(a ? b : c) ? d : e", "(? (? a b c) d e)"},
		{"a ? b ? c : d : e ? f() : g", "(? a (? b c d) (? e (f()) g))"}, {"a ? b : (c ? d : e)", "(? a b (? c d e))"}, {"a || b ? c || d : e || f()", "(? (|| a b) (|| c d) (|| e (f())))"},
		{"a in t ? b in t : c in t", "(? (in:t a) (in:t b) (in:t c))"}, {"a ? x = 1 : y = 2", "(? a (= x 1) (= y 2))"}, {"x = a ? b : c", "(= x (? a b c))"}, {"a ~ b ? c : d", "(? (~ a b) c d)"},
		{"! a ? b : c", "(? (! a) b c)"}, {"a b ? c d : e g", "(? (cat a b) (cat c d) (cat e g))"}, {"(a ? b : c) d", "(cat (? a b c) d)"}, {"a ? (b, c) in t : d", "(? a (in:t b c) d)"},
		{"a ? b > c : d > e", "(? a (> b c) (> d e))"}, {"a > b ? c : d", "(? (> a b) c d)"},
	} {
		tellsExpr(t, c[0], c[1])
		more := strings.NewReplacer("?", "? \n", ":", ":\n \n\t").Replace(c[0])
		tells(t, "{ "+more+" }", "rule {"+c[1]+"}")
	}
	for _, text := range []string{"a ?", "a ? b", "a ? b :", "a ? : c", "? b : c", "a ? b : c : d", "a : b", "a ? b, c : d", "a ? b c", "a ? b ; : c", "(a ? b) : c", "a ? (b : c)"} {
		refusesExpr(t, text)
	}
	refuses(t, "{ a\n? b : c }", api.ErrSyntax, 2)
	refuses(t, "{ a ? b\n: c }", api.ErrSyntax, 1)
	refuses(t, "{ a ?;b : c }", api.ErrSyntax, 1)
	refuses(t, "{ a ? b :;c }", api.ErrSyntax, 1)
}

// P14.1: in with one and with many keys.
func TestIns(t *testing.T) {
	for _, c := range [][2]string{
		{"a in t", "(in:t a)"}, {"a in t in u", "(in:u (in:t a))"}, {"(a) in t", "(in:t a)"}, {"((a)) in t", "(in:t a)"}, {"(a, b) in t", "(in:t a b)"}, {"(a, b, c, d) in t", "(in:t a b c d)"},
		{"(a, b) in t in u", "(in:u (in:t a b))"}, {"((a, b) in t, c) in u", "(in:u (in:t a b) c)"}, {"((a, b) in t) in u", "(in:u (in:t a b))"}, {"a b in t", "(in:t (cat a b))"}, {"a + b in t", "(in:t (+ a b))"},
		{"a ~ b in t", "(in:t (~ a b))"}, {"a < b in t", "(in:t (< a b))"}, {"a && b in t && c", "(&& (&& a (in:t b)) c)"}, {"! a in t", "(in:t (! a))"}, {"!(a in t)", "(! (in:t a))"}, {"! (a, b) in t", "(! (in:t a b))"},
		{"- (a, b) in t", "(neg (in:t a b))"}, {"a (b, c) in t", "(cat a (in:t b c))"}, {"$(a, b) in t", "($ (in:t a b))"}, {"$a in t", "(in:t ($ a))"}, {"(a, b) in t ^ c", "(^ (in:t a b) c)"}, {"(a, b) in t + c", "(+ (in:t a b) c)"},
		{"(a, b) in t c", "(cat (in:t a b) c)"}, {"(a, b) in t ~ c", "(~ (in:t a b) c)"}, {"x = a in t", "(= x (in:t a))"}, {"x[a in t]", "(x[] (in:t a))"}, {"a++ in t", "(in:t (post++ a))"}, {"getline in t", "(in:t (get:1))"},
		{"getline x in t", "(in:t (get:9 x))"}, {"\"c\" | getline in t", "(in:t (get:3 \"c\"))"}, {"a < (b, c) in t", "(< a (in:t b c))"}, {"(x = a, y = b) in t", "(in:t (= x a) (= y b))"}, {"length in t", "(in:t (length))"},
	} {
		tellsExpr(t, c[0], c[1])
	}
	tells(t, "{ (a,\n\nb, \n c) in t }", "rule {(in:t a b c)}")
	for _, text := range []string{"a in", "in t", "a in 1", "a in t[1]", "a in f(b)", "a in $t", "a in (t)", "a in length", "a in \"t\"", "(a, b)", "(a, b) in", "(a, b) in 1", "(a, b) in f(c)", "(a, b) + c", "(a, b) ~ c", "(a, b) = c",
		"(a,) in t", "(, a) in t", "() in t", "(a, , b) in t", "(a; b) in t", "(a, b", "(a, b in t", "a, b) in t", "((a, b)) in t", "((a, b), c) in t", "a in t ~ b", "a in t < b", "a in t + b", "a in t b", "a in t++", "a in t = b", "a in in t"} {
		refusesExpr(t, text)
	}
	refuses(t, "{ (a\n, b) in t }", api.ErrSyntax, 1)
	refuses(t, "{ (\na, b) in t }", api.ErrSyntax, 1)
	refuses(t, "{ (a, b\n) in t }", api.ErrSyntax, 1)
	refuses(t, "{ (a, b)\nin t }", api.ErrSyntax, 1)
	refuses(t, "{ a in\nt }", api.ErrSyntax, 1)
	refuses(t, "{ a\nin t }", api.ErrSyntax, 2)
}

// P14.1: getline in each form.
func TestGetlines(t *testing.T) {
	for _, l := range [][2]string{{"", ""}, {" x", " x"}, {" x[1]", " (x[] 1)"}, {" x[a, b]", " (x[] a b)"}, {" $1", " ($ 1)"}, {" $x", " ($ x)"}, {" $++x", " ($ (pre++ x))"}, {"$-x", " ($ (neg x))"}, {" $$x", " ($ ($ x))"}, {" $(x)", " ($ x)"}} {
		n := map[bool][3]string{false: {"1", "2", "3"}, true: {"9", "10", "11"}}[l[0] != ""]
		get := func(which int, source string) string { return "(get:" + n[which] + l[1] + source + ")" }
		tellsExpr(t, "getline"+l[0], get(0, ""))
		for _, source := range [][2]string{{`"f"`, `"f"`}, {"1", "1"}, {"y", "y"}, {"y[1]", "(y[] 1)"}, {"$y", "($ y)"}, {"$-y", "($ (neg y))"}, {"(a b)", "(cat a b)"}, {"f(a)", "(f() a)"}, {"length", "(length)"}, {"length(a)", "(length a)"}, {"/a/", "/a/"},
			{"getline", "(get:1)"}, {"getline y", "(get:9 y)"}, {"getline < y", "(get:2 y)"}, {"getline z < y", "(get:10 z y)"}, {"(a, b) in t", "(in:t a b)"}} {
			tellsExpr(t, "getline"+l[0]+" < "+source[0], get(1, " "+source[1]))
			tellsExpr(t, "(getline"+l[0]+" < "+source[0]+") > 0", "(> "+get(1, " "+source[1])+" 0)")
		}
		f := get(1, ` "f"`)
		tellsExpr(t, "getline"+l[0]+` < "f" b`, "(cat "+f+" b)")
		tellsExpr(t, "getline"+l[0]+` < "f" + b`, "(+ "+f+" b)")
		tellsExpr(t, "getline"+l[0]+` < "f" < b`, "(< "+f+" b)")
		tellsExpr(t, "getline"+l[0]+` < "f" > b`, "(> "+f+" b)")
		tellsExpr(t, "getline"+l[0]+" > b", "(> "+get(0, "")+" b)")
		tellsExpr(t, "getline"+l[0]+" + b", "(+ "+get(0, "")+" b)")
		tellsExpr(t, "getline"+l[0]+" ~ /a/", "(~ "+get(0, "")+" /a/)")
		tellsExpr(t, "- getline"+l[0]+" ^ 2", "(neg (^ "+get(0, "")+" 2))")
		tellsExpr(t, `"c" | getline`+l[0], get(2, ` "c"`))
		tellsExpr(t, `"c" "d" | getline`+l[0], get(2, ` (cat "c" "d")`))
		tellsExpr(t, `a + b c | getline`+l[0], get(2, " (cat (+ a b) c)"))
		tellsExpr(t, `(a < b) | getline`+l[0], get(2, " (< a b)"))
		tellsExpr(t, `"c" | getline`+l[0]+" > 0", "(> "+get(2, ` "c"`)+" 0)")
		tellsExpr(t, `"c" | getline`+l[0]+" < y", "(< "+get(2, ` "c"`)+" y)")
		tellsExpr(t, `a < "c" | getline`+l[0], "(< a "+get(2, ` "c"`)+")")
		tellsExpr(t, `! "c" | getline`+l[0], get(2, ` (! "c")`))
		tellsExpr(t, `"c" | getline`+l[0]+" | getline", "(get:3 "+get(2, ` "c"`)+")")
		tellsExpr(t, `"c" | getline | getline`+l[0], get(2, ` (get:3 "c")`))
		tellsExpr(t, `"c" | getline z | getline`+l[0]+" | getline y", "(get:11 y "+get(2, ` (get:11 z "c")`)+")")
		tellsExpr(t, `getline`+l[0]+" | getline", "(get:3 "+get(0, "")+")")
		tellsExpr(t, `x = "c" | getline`+l[0], "(= x "+get(2, ` "c"`)+")")
		refusesExpr(t, `"c" | getline`+l[0]+` "d"`)
		refusesExpr(t, `"c" | getline`+l[0]+" + 1")
		refusesExpr(t, "a getline"+l[0])
		if l[0] != "" {
			refusesExpr(t, "getline"+l[0]+"++")
			refusesExpr(t, "getline"+l[0]+" = 1")
			refusesExpr(t, "getline ("+l[0]+") = 1")
		}
	}
	tellsExpr(t, "getline x y", "(cat (get:9 x) y)")
	tellsExpr(t, "getline f(x)", "(cat (get:1) (f() x))")
	tellsExpr(t, "getline (x)", "(cat (get:1) x)")
	tellsExpr(t, "getline \"x\"", "(cat (get:1) \"x\")")
	tellsExpr(t, "getline + x", "(+ (get:1) x)")
	for _, text := range []string{"getline <", "getline x <", "getline < -1", "getline < !a", "getline < ++a", "getline < a++", "getline < ()", "getline <= ", "getline ++x", "| getline", `"c" |`, `"c" | x`, `"c" | getline |`, `"c" || getline |`, "getline getline", "x++ | getline = 1"} {
		refusesExpr(t, text)
	}
	tells(t, "getline\n", "rule (get:1)")
	tells(t, "getline < a\n", "rule (get:2 a)")
	refuses(t, "{ getline <\na }", api.ErrSyntax, 1)
	refuses(t, "{ \"c\" |\ngetline }", api.ErrSyntax, 1)
	refuses(t, "{ \"c\"\n| getline }", api.ErrSyntax, 2)
}

// P14.1: what may stand right behind another in a cat, and what may not.
func TestCats(t *testing.T) {
	joins := [][2]string{{"1", "1"}, {".5", "0.5"}, {`"x"`, `"x"`}, {"b", "b"}, {"b[1]", "(b[] 1)"}, {"f(b)", "(f() b)"}, {"f()", "(f())"}, {"$1", "($ 1)"}, {"$b", "($ b)"}, {"$-b", "($ (neg b))"}, {"(b)", "b"}, {"(- b)", "(neg b)"}, {"(b, c) in t", "(in:t b c)"}, {"length", "(length)"}, {"b++", "(post++ b)"}, {"b ^ c", "(^ b c)"}, {"(getline)", "(get:1)"}, {"(/x/)", "/x/"}}
	for _, word := range builtinWords() {
		joins = append(joins, [2]string{word + "(b)", "(" + word + " b)"})
	}
	for _, c := range joins {
		for _, d := range [][2]string{{"a", "a"}, {"1", "1"}, {`"a"`, `"a"`}, {"$a", "($ a)"}, {"(a)", "a"}, {"a[1]", "(a[] 1)"}, {"g(a)", "(g() a)"}, {"a++", "(post++ a)"}, {"-a", "(neg a)"}, {"!a", "(! a)"}, {"--a", "(pre-- a)"}, {"/a/", "/a/"}, {"a - 1", "(- a 1)"}} {
			tellsExpr(t, d[0]+" "+c[0], "(cat "+d[1]+" "+c[1]+")")
		}
		tellsExpr(t, "a "+c[0]+" "+c[0], "(cat (cat a "+c[1]+") "+c[1]+")")
		tellsExpr(t, "a + "+c[0]+" "+c[0], "(cat (+ a "+c[1]+") "+c[1]+")")
	}
	tellsExpr(t, "a -1", "(- a 1)")
	tellsExpr(t, "a +1", "(+ a 1)")
	tellsExpr(t, "a - 1 b", "(cat (- a 1) b)")
	tellsExpr(t, "a b -1", "(cat a (- b 1))")
	tellsExpr(t, "a -1 \" \" -1", "(cat (- a 1) (- \" \" 1))")
	tellsExpr(t, "a in t", "(in:t a)")
	tellsExpr(t, "a b in t", "(in:t (cat a b))")
	tellsExpr(t, "a /b/ c", "(/ (/ a b) c)")
	tellsExpr(t, "a++ b", "(cat (post++ a) b)")
	tellsExpr(t, "a ++ b", "(cat (post++ a) b)")
	for _, text := range []string{"a !b", "a ! b", "a ++ ++b", "1 ++b", "a /b/", "a b /c/", "a getline", "a in", "a ~", "a )", "a ]", "a print", "a next", "a if", "a function", "a BEGIN", "a substr"} {
		refusesExpr(t, text)
	}
}

// P14.1: signs ahead of each other and of ^.
func TestSigned(t *testing.T) {
	signs := [][2]string{{"!", "!"}, {"-", "neg"}, {"+", "plus"}}
	for _, x := range signs {
		tellsExpr(t, x[0]+" a", "("+x[1]+" a)")
		tellsExpr(t, x[0]+" a ^ b", "("+x[1]+" (^ a b))")
		tellsExpr(t, "("+x[0]+" a) ^ b", "(^ ("+x[1]+" a) b)")
		tellsExpr(t, "a ^ "+x[0]+" b", "(^ a ("+x[1]+" b))")
		tellsExpr(t, "a ^ "+x[0]+" b ^ c", "(^ a ("+x[1]+" (^ b c)))")
		tellsExpr(t, "a ^ "+x[0]+" b * c", "(* (^ a ("+x[1]+" b)) c)")
		tellsExpr(t, x[0]+" a++", "("+x[1]+" (post++ a))")
		tellsExpr(t, x[0]+" ++a", "("+x[1]+" (pre++ a))")
		tellsExpr(t, x[0]+" $a", "("+x[1]+" ($ a))")
		tellsExpr(t, x[0]+" /a/", "("+x[1]+" /a/)")
		tellsExpr(t, x[0]+" 1", "("+x[1]+" 1)")
		tellsExpr(t, x[0]+" (a, b) in t", "("+x[1]+" (in:t a b))")
		for _, y := range signs {
			tellsExpr(t, x[0]+" "+y[0]+" a", "("+x[1]+" ("+y[1]+" a))")
			tellsExpr(t, x[0]+" "+y[0]+" a ^ b", "("+x[1]+" ("+y[1]+" (^ a b)))")
			tellsExpr(t, "a ^ "+x[0]+" "+y[0]+" b", "(^ a ("+x[1]+" ("+y[1]+" b)))")
			tellsExpr(t, x[0]+" "+x[0]+" "+y[0]+" "+x[0]+" a", "("+x[1]+" ("+x[1]+" ("+y[1]+" ("+x[1]+" a))))")
			tellsExpr(t, x[0]+" a * "+y[0]+" b", "(* ("+x[1]+" a) ("+y[1]+" b))")
		}
		for _, in := range infixes() {
			text := x[0] + " a " + in.sign + " b"
			if in.sign == "^" {
				continue
			}
			tellsExpr(t, text, "("+in.head+" ("+x[1]+" a) b)")
			tellsExpr(t, x[0]+" (a "+in.sign+" b)", "("+x[1]+" ("+in.head+" a b))")
			if in.sign != "" {
				tellsExpr(t, "a "+in.sign+" "+x[0]+" b", "("+in.head+" a ("+x[1]+" b))")
			}
		}
		for _, text := range []string{x[0], x[0] + " )", x[0] + " * a", "(" + x[0] + ")", x[0] + " in t", "a ^ " + x[0], x[0] + " ;"} {
			refusesExpr(t, text)
		}
		refuses(t, "{ "+x[0]+"\na }", api.ErrSyntax, 1)
	}
	tellsExpr(t, "a ^ b ^ c ^ d", "(^ a (^ b (^ c d)))")
	tellsExpr(t, "(a ^ b) ^ c", "(^ (^ a b) c)")
	tellsExpr(t, "a ^ b++", "(^ a (post++ b))")
	tellsExpr(t, "a++ ^ b", "(^ (post++ a) b)")
	tellsExpr(t, "++a ^ --b", "(^ (pre++ a) (pre-- b))")
	tellsExpr(t, "$a ^ $b", "(^ ($ a) ($ b))")
	tellsExpr(t, "2 ^ -3 ^ 2", "(^ 2 (neg (^ 3 2)))")
	for _, text := range []string{"a ^", "^ a", "a ^ ^ b", "a ^ * b", "a ** b", "a ^\nb"} {
		refusesExpr(t, text)
	}
}

// P14.1: ++ and -- ahead and behind of each lvalue, and of what is none.
func TestSteps(t *testing.T) {
	for _, s := range []string{"++", "--"} {
		for _, l := range [][2]string{{"x", "x"}, {"x[1]", "(x[] 1)"}, {"x[a, b]", "(x[] a b)"}, {"$1", "($ 1)"}, {"$x", "($ x)"}, {"$$x", "($ ($ x))"}, {"$++x", "($ (pre++ x))"}, {"$--x", "($ (pre-- x))"}, {"$-x", "($ (neg x))"}, {"$+x", "($ (plus x))"}, {"$!x", "($ (! x))"}, {"$x[1]", "($ (x[] 1))"}, {"$(x)", "($ x)"}, {"$(x++)", "($ (post++ x))"}, {"$- -x", "($ (neg (neg x)))"}, {"$(a, b) in t", "($ (in:t a b))"}} {
			tellsExpr(t, s+l[0], "(pre"+s+" "+l[1]+")")
			tellsExpr(t, s+" "+l[0], "(pre"+s+" "+l[1]+")")
			tellsExpr(t, l[0]+s, "(post"+s+" "+l[1]+")")
			tellsExpr(t, l[0]+" "+s, "(post"+s+" "+l[1]+")")
			tellsExpr(t, "- "+l[0]+s+" b", "(cat (neg (post"+s+" "+l[1]+")) b)")
			refusesExpr(t, s+l[0]+s)
			refusesExpr(t, l[0]+s+s)
			refusesExpr(t, s+s+l[0])
			refusesExpr(t, "("+l[0]+")"+s)
			refusesExpr(t, s+"("+l[0]+")")
			refusesExpr(t, s+"-"+l[0])
		}
		for _, none := range []string{"1", `"a"`, "f(x)", "length", "length(x)", "/a/", "(x)", "(x, y) in t", "getline", "getline x", "getline < x", "(x + y)", "!"} {
			refusesExpr(t, none+s)
			refusesExpr(t, none+s+" + 1")
			refusesExpr(t, s+none)
		}
		refusesExpr(t, s)
		refusesExpr(t, "x + "+s)
		refuses(t, "{ "+s+"\nx }", api.ErrSyntax, 1)
		tells(t, "{ x\n"+s+"y }", "rule {x; (pre"+s+" y)}")
		tells(t, "{ x"+s+"\ny }", "rule {(post"+s+" x); y}")
	}
	tellsExpr(t, "x++ + ++y", "(+ (post++ x) (pre++ y))")
	tellsExpr(t, "x+++y", "(+ (post++ x) y)")
	tellsExpr(t, "x---y", "(- (post-- x) y)")
	tellsExpr(t, "x - --y", "(- x (pre-- y))")
}

// P14.1: what may stand behind $.
func TestPlaces(t *testing.T) {
	for _, c := range [][2]string{
		{"$1", "($ 1)"}, {"$1.5", "($ 1.5)"}, {"$x", "($ x)"}, {`$"1"`, `($ "1")`}, {"$/a/", "($ /a/)"}, {"$x[1]", "($ (x[] 1))"}, {"$f(x)", "($ (f() x))"}, {"$length", "($ (length))"}, {"$length(x)", "($ (length x))"}, {"$int(x)", "($ (int x))"},
		{"$(x)", "($ x)"}, {"$(x + 1)", "($ (+ x 1))"}, {"$(x, y) in t", "($ (in:t x y))"}, {"$$x", "($ ($ x))"}, {"$$$1", "($ ($ ($ 1)))"}, {"$++x", "($ (pre++ x))"}, {"$--x", "($ (pre-- x))"}, {"$++$x", "($ (pre++ ($ x)))"}, {"$++x[1]", "($ (pre++ (x[] 1)))"},
		{"$-x", "($ (neg x))"}, {"$+x", "($ (plus x))"}, {"$!x", "($ (! x))"}, {"$- -x", "($ (neg (neg x)))"}, {"$-++x", "($ (neg (pre++ x)))"}, {"$!$x", "($ (! ($ x)))"}, {"$-1", "($ (neg 1))"}, {"$-$-1", "($ (neg ($ (neg 1))))"},
		{"$x++", "(post++ ($ x))"}, {"$++x++", "(post++ ($ (pre++ x)))"}, {"$$x--", "(post-- ($ ($ x)))"}, {"$x^2", "(^ ($ x) 2)"}, {"$-x^2", "(^ ($ (neg x)) 2)"}, {"$x + 1", "(+ ($ x) 1)"}, {"$x y", "(cat ($ x) y)"}, {"$x * $y", "(* ($ x) ($ y))"}, {"$NF-1", "(- ($ NF) 1)"}, {"$(NF-1)", "($ (- NF 1))"},
		{"$x in t", "(in:t ($ x))"}, {"$x ~ y", "(~ ($ x) y)"}, {"$getline", "($ (get:1))"}, {"$getline x", "($ (get:9 x))"}, {"$getline < x", "($ (get:2 x))"}, {"$ 1", "($ 1)"}, {"!$1", "(! ($ 1))"}, {"-$1", "(neg ($ 1))"}, {"$x | getline", "(get:3 ($ x))"},
	} {
		tellsExpr(t, c[0], c[1])
	}
	for _, text := range []string{"$", "$)", "$+", "$++", "$++1", "$++(x)", "$--f(x)", "$*x", "$^x", "$()", "$(x, y)", "$in", "$;", "$x)", "$ = 1", "$[1]", "$]", "$substr", "$print"} {
		refusesExpr(t, text)
	}
	refuses(t, "{ $\n1 }", api.ErrSyntax, 1)
}

// P14.1: names with keys, and calls.
func TestKeysAndCalls(t *testing.T) {
	for _, c := range [][2]string{
		{"t[1]", "(t[] 1)"}, {"t[a, b]", "(t[] a b)"}, {"t[a, b, c, d]", "(t[] a b c d)"}, {"t [1]", "(t[] 1)"}, {"t[t[1]]", "(t[] (t[] 1))"}, {"t[a = 1]", "(t[] (= a 1))"}, {"t[a ? b : c]", "(t[] (? a b c))"}, {"t[a in u]", "(t[] (in:u a))"}, {"t[(a, b) in u]", "(t[] (in:u a b))"}, {"t[a > b]", "(t[] (> a b))"},
		{"f()", "(f())"}, {"f(a)", "(f() a)"}, {"f(a, b)", "(f() a b)"}, {"f(a = 1, b ? c : d, e f)", "(f() (= a 1) (? b c d) (cat e f))"}, {"f(f(a), g())", "(f() (f() a) (g()))"}, {"f((a, b) in t)", "(f() (in:t a b))"}, {"f((a))", "(f() a)"}, {"f (a)", "(cat f a)"}, {"f (a, b) in t", "(cat f (in:t a b))"}, {"f(a)(b)", "(cat (f() a) b)"}, {"f( )", "(f())"}, {"f(a, b, c, d, e, g, h, i)", "(f() a b c d e g h i)"},
		{"f(/a/)", "(f() /a/)"}, {"length", "(length)"}, {"length()", "(length)"}, {"length ( )", "(length)"}, {"length(a)", "(length a)"}, {"length (a)", "(length a)"}, {"length a", "(cat (length) a)"}, {"length + 1", "(+ (length) 1)"}, {"length length", "(cat (length) (length))"}, {"length(a) (b)", "(cat (length a) b)"}, {"length $1", "(cat (length) ($ 1))"}, {"length(a, b) in t", "(in:t (length a b))"},
		{"length ~ 1", "(~ (length) 1)"}, {"length < 1", "(< (length) 1)"}, {"-length", "(neg (length))"}, {"x = length", "(= x (length))"},
	} {
		tellsExpr(t, c[0], c[1])
	}
	for _, word := range builtinWords() {
		tellsExpr(t, word+"()", "("+word+")")
		tellsExpr(t, word+" (a)", "("+word+" a)")
		tellsExpr(t, word+"(a, b + 1, c)", "("+word+" a (+ b 1) c)")
		tellsExpr(t, word+"(a, b, c, d, e, g)", "("+word+" a b c d e g)")
		tellsExpr(t, word+"(/a/, "+word+"(b))", "("+word+" /a/ ("+word+" b))")
		tells(t, "{ "+word+"(a,\nb, \n\n c) }", "rule {("+word+" a b c)}")
		for _, text := range []string{"(,)", "(a,)", "(,a)", "(a,,b)", "(a b", "(", "(a;b)", "(a, b", "(a))", "[1]", " = 1", "++"} {
			refusesExpr(t, word+text)
		}
		if word != "length" {
			for _, text := range []string{"", " a", " + 1", " 1", " \"a\"", ")", " $1"} {
				refusesExpr(t, word+text)
			}
			refuses(t, "{ "+word+"\n(a) }", api.ErrSyntax, 1)
		}
	}
	tells(t, "{ f(a,\nb,\n\n\nc); t[a,\nb] }", "rule {(f() a b c); (t[] a b)}")
	tells(t, "{ length\n(a) }", "rule {(length); a}")
	for _, text := range []string{"t[]", "t[,]", "t[a,]", "t[,a]", "t[a,,b]", "t[a", "t[a;b]", "t a]", "t[a]]", "t[a)", "t[a][b]", "1[a]", "f(a)[b]", "(t)[a]", "[a]", "f(", "f(a", "f(a,", "f(,)", "f(a,)", "f(,a)", "f(a,,b)", "f(a;b)", "f(a]", "f(a b", "f(a))", "f(print)", "f(in)", "f(a, b", "f((a, b))", "f(a, (b, c))"} {
		refusesExpr(t, text)
	}
	for _, text := range []string{"f(\na)", "f(a\n)", "f(a\n, b)", "f(\n)", "t[\na]", "t[a\n]", "t[a\n, b]", "(\na)", "(a\n)"} {
		refuses(t, "{ "+text+" }", api.ErrSyntax, 1)
	}
	refuses(t, "{ f(a,;b) }", api.ErrSyntax, 1)
	refuses(t, "{ f(a,\n\n) }", api.ErrSyntax, 3)
}

// P14.1: a pattern stands where a primary may, and a slash is a sign elsewhere.
func TestPatterns(t *testing.T) {
	for _, re := range [][2]string{{"/a/", "/a/"}, {"/=/", "/=/"}, {"/=a b/", "/=a b/"}, {"//", "//"}, {`/\//`, "///"}, {`/\\/`, `/\\/`}, {`/"/`, `/"/`}, {"/#/", "/#/"}, {"/@/", "/@/"}, {"/[/", "/[/"}, {"/=\\//", "/=//"}, {"/a;}/", "/a;}/"}} {
		for _, c := range [][2]string{
			{"%", "%"}, {"! %", "(! %)"}, {"- %", "(neg %)"}, {"a ~ %", "(~ a %)"}, {"% ~ a", "(~ % a)"}, {"a !~ %", "(!~ a %)"}, {"a || %", "(|| a %)"}, {"% && %", "(&& % %)"}, {"(%)", "%"}, {"$%", "($ %)"}, {"f(%)", "(f() %)"}, {"f(a, %)", "(f() a %)"}, {"t[%]", "(t[] %)"}, {"t[a, %]", "(t[] a %)"}, {"x = %", "(= x %)"}, {"x += %", "(+= x %)"}, {"x /= %", "(/= x %)"},
			{"a ? % : %", "(? a % %)"}, {"% ? a : b", "(? % a b)"}, {"a ^ %", "(^ a %)"}, {"a + %", "(+ a %)"}, {"a < %", "(< a %)"}, {"a / %", "(/ a %)"}, {"% / a", "(/ % a)"}, {"% / %", "(/ % %)"}, {"% a", "(cat % a)"}, {"% in t", "(in:t %)"}, {"(%, a) in t", "(in:t % a)"}, {"getline < %", "(get:2 %)"}, {"% | getline", "(get:3 %)"}, {"split(a, b, %)", "(split a b %)"},
		} {
			tellsExpr(t, strings.ReplaceAll(c[0], "%", re[0]), strings.ReplaceAll(c[1], "%", re[1]))
		}
		tells(t, re[0]+", "+re[0]+" { print "+re[0]+" > "+re[0]+"; print("+re[0]+"); exit "+re[0]+"; if ("+re[0]+") "+re[0]+"; for ("+re[0]+"; "+re[0]+"; "+re[0]+") ; }",
			strings.ReplaceAll("rule % % {print:1 % %; print:0 %; exit %; if % {%}; for:7 {%; %} % {}}", "%", re[1]))
	}
	for _, c := range [][2]string{{"a / b", "(/ a b)"}, {"a / b / c", "(/ (/ a b) c)"}, {"a /b/ c", "(/ (/ a b) c)"}, {"a /= b", "(/= a b)"}, {"a /=b/ c", "(/= a (/ b c))"}, {"1 /b/ 2", "(/ (/ 1 b) 2)"}, {"(a) / b", "(/ a b)"}, {"t[1] / b", "(/ (t[] 1) b)"}, {"$1 / $2", "(/ ($ 1) ($ 2))"}, {"f(a) / b", "(/ (f() a) b)"}, {"length / b", "(/ (length) b)"}, {"a++ / b", "(/ (post++ a) b)"}, {`"a" / b`, `(/ "a" b)`}, {"getline x / b", "(/ (get:9 x) b)"}, {"getline / b", "(/ (get:1) b)"}, {"$x / b / c", "(/ (/ ($ x) b) c)"}, {"a / /b/ / c", "(/ (/ a /b/) c)"}} {
		tellsExpr(t, c[0], c[1])
	}
	for _, text := range []string{"/", "/a", "/a\\/", "/=", "a ~ /", "a ~ /=", "! /a", "(/a)", "f(/a)", "x = /a", "$/", "a / /b"} {
		for _, around := range []string{"{ % }", "%", "%\n", "BEGIN { x = 1; y = %\n}", "{ print % }", "{ f(%) }", "{ for (;;%) ; }"} {
			refuses(t, strings.ReplaceAll(around, "%", text), api.ErrToken, 1)
		}
		refuses(t, "\n\\\n{ \\\n"+text+"\n/ }", api.ErrToken, 4)
	}
	refuses(t, "{ a / \\\n/b\n/ }", api.ErrToken, 2)
	refuses(t, "{ 1 /= 2 }", api.ErrSyntax, 1)
}

// P14.1: numbers of each form; of one that is not finite ErrSyntax.
func TestNumbers(t *testing.T) {
	for _, c := range [][2]string{{"0", "0"}, {"1", "1"}, {"007", "7"}, {"12.5", "12.5"}, {"1.", "1"}, {".5", "0.5"}, {"0.1", "0.1"}, {"1e3", "1000"}, {"1E3", "1000"}, {"1.e2", "100"}, {".5e1", "5"}, {"1e+2", "100"}, {"1e-2", "0.01"}, {"1e-999", "0"}, {"0e999", "0"}, {"1.7976931348623157e308", "1.7976931348623157e+308"}, {"5e-324", "5e-324"}, {"9007199254740993", "9.007199254740992e+15"}, {"123456789012345678901234567890", "1.2345678901234568e+29"},
		{"1" + strings.Repeat("0", 308), "1e+308"}, {"." + strings.Repeat("0", 400) + "1e401", "1"}} {
		tellsExpr(t, c[0], c[1])
		tellsExpr(t, "a - "+c[0], "(- a "+c[1]+")")
	}
	tellsExpr(t, "1e", "(cat 1 e)")
	tellsExpr(t, "1.2.3", "(cat 1.2 0.3)")
	tellsExpr(t, "1x", "(cat 1 x)")
	tellsExpr(t, "0x1", "(cat 0 x1)")
	for _, text := range []string{"1e999", "1e309", "1" + strings.Repeat("0", 309), "1.7976931348623159e308", "99e9999999999999999999", strings.Repeat("9", 400) + ".5"} {
		for _, around := range []string{"%", "-%", "a %", "a + %", "f(%)", "t[%]", "$%", "(%)", "x = %", "a ? % : b", "getline < %", "a ~ %"} {
			refusesExpr(t, strings.ReplaceAll(around, "%", text))
		}
		// Where no number may stand, too; and what is behind it is not read.
		refuses(t, "{ print\\\n"+text+" }", api.ErrSyntax, 2)
		refuses(t, "{ print ("+text+") }", api.ErrSyntax, 1)
		refuses(t, "{ a ~ b ~ "+text+" }", api.ErrSyntax, 1)
		refuses(t, "{ x = "+text+" @ }", api.ErrSyntax, 1)
		refuses(t, "\n{ for (k in "+text+") ; }", api.ErrSyntax, 2)
	}
}

// P14.1: texts and names as they are.
func TestTextsAndNames(t *testing.T) {
	for _, s := range []string{`""`, `"a"`, `"a\"b"`, `"\\"`, `"\n\t\/\101\q"`, `"/a/"`, `"#"`, `"{"`, "\"\xff\x00\""} {
		p, _ := held(t, "{ "+s+" }")
		tellsExpr(t, s, sayExpr(p.Items[0].Body[0].Exprs[0]))
	}
	p, _ := held(t, `{ "\n\t\/\101\q" }`)
	if got := p.Items[0].Body[0].Exprs[0]; got.S != "\n\t/A\\q" {
		t.Errorf("%q", got.S)
	}
	for _, s := range []string{"a", "_", "A1", "_9", "NF", "Print", "lengths", "in_", "func", strings.Repeat("n", 1000)} {
		tellsExpr(t, s, s)
		tellsExpr(t, s+"[1]", "("+s+"[] 1)")
		tellsExpr(t, s+"(1)", "("+s+"() 1)")
		tellsExpr(t, s+" (1)", "(cat "+s+" 1)")
	}
	for _, s := range []string{"BEGIN", "END", "function", "if", "else", "while", "for", "do", "break", "continue", "next", "exit", "return", "delete", "in", "print", "printf"} {
		for _, around := range []string{"(%)", "- %", "$%", "a + %", "f(%)", "t[%]", "x = %", "++%", "% + 1 + (%)", "a % b"} {
			if s == "in" && around == "a % b" {
				continue
			}
			refusesExpr(t, strings.ReplaceAll(around, "%", s))
		}
	}
}

// P14.1: each sign alone, and ahead of and behind a name, where no expression has
// one.
func TestSignsAlone(t *testing.T) {
	for _, s := range []string{"&&", "||", "+=", "-=", "*=", "^=", "==", "<=", ">=", "!=", "!~", ">>", "}", ")", "]", ",", "*", "%", "^", ">", "<", "|", "?", ":", "~", "="} {
		refuses(t, s, api.ErrSyntax, 1)
		refuses(t, s+" a", api.ErrSyntax, 1)
		refuses(t, "BEGIN { x["+s+"] }", api.ErrSyntax, 1)
		if !slices.Contains(assignSigns(), s) {
			refuses(t, "a "+s+" )", api.ErrSyntax, 1)
		}
	}
}
