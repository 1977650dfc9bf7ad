package parse

import (
	"strings"
	"testing"

	"winnower/api"
	"winnower/nodes"
)

// nest is a way to put things within one another: a source of it is head, then
// open so many times, then middle, then shut so many times. One more time of it is
// so many more of the rules that count; first is how many were going on without one.
type nest struct {
	name, head, open, middle, shut, tail string
	first, more                          int
}

func nests() []nest {
	stmts := func(name, open, middle, shut string, first int) nest {
		return nest{name, "BEGIN { ", open, middle, shut, " }", first, 1}
	}
	return []nest{
		// In parentheses: an expr and a unary each.
		{"parentheses", "", "( ", "a ", ") ", "", 2, 2},
		{"parentheses of a statement", "{ ", "( ", "a ", ") ", "}", 3, 2},
		{"parentheses behind a sign", "- ", "( ", "a ", ") ", "", 3, 2},
		{"parentheses of arguments", "", "f( ", "a ", ") ", "", 2, 2},
		{"parentheses of a builtin", "{ ", "int ( ", "a ", ") ", "}", 3, 2},
		{"brackets", "", "t [ ", "a ", "] ", "", 2, 2},
		{"brackets of a statement", "{ ", "t [ ", "a ", "] ", "}", 3, 2},
		{"keys", "", "( a , ", "b ", ") in t ", "", 2, 2},
		{"places in parentheses", "", "$ ( ", "a ", ") ", "", 2, 3},
		// Of one rule.
		{"signs", "", "- ", "a ", "", "", 2, 1},
		{"other signs", "", "! ", "1 ", "", "", 2, 1},
		{"signs of a statement", "{ ", "+ ", "a ", "", "}", 3, 1},
		{"powers", "a ", "^ b ", "", "", "", 2, 1},
		{"signs of a power", "{ a ^ ", "- ", "b ", "", "}", 4, 1},
		{"places", "", "$ ", "a ", "", "", 2, 1},
		{"signs of a place", "{ $ ", "- ", "a ", "", "}", 4, 1},
		{"places of an lvalue", "++ ", "$ ", "a ", "", "", 2, 1},
		{"places of getline", "getline ", "$ ", "a ", "", "", 2, 1},
		{"assigns", "", "a = ", "b ", "", "", 2, 1},
		{"assigns of places", "{ ", "$ a += ", "b ", "", "}", 3, 1},
		{"conditions behind", "", "a ? b : ", "c ", "", "", 2, 1},
		{"conditions between", "", "a ? ", "b ", ": c ", "", 2, 1},
		// Of statements.
		stmts("blocks", "{ ", "next ; ", "} ", 1),
		stmts("blocks in lines", "\n{\n", "a\n", "}\n", 3),
		stmts("ifs", "if ( a ) ", "b ; ", "", 3),
		stmts("ifs with a body", "if ( a ) { ", "next ", "} ", 2),
		stmts("elses", "if ( a ) ; else ", "next ; ", "", 2),
		stmts("whiles", "while ( a ) ", "next ; ", "", 2),
		stmts("dos", "do ", "next ; ", "while ( a ) ; ", 2),
		stmts("fors", "for ( ; ; ) ", "break\n", "", 1),
		stmts("fors of an array", "for ( a in b ) ", "b = c ; ", "", 4),
	}
}

func (n nest) text(times int) string {
	return n.head + strings.Repeat(n.open, times) + n.middle + strings.Repeat(n.shut, times) + n.tail
}

// going tells how many rules that count are going on at once.
func (n nest) going(times int) int {
	return n.first + times*n.more
}

// nestIs says what becomes of a source of which so many rules are going on at
// once, all of it in one line. More than 60 levels of a tree are too many, too.
func nestIs(t *testing.T, name, text string, going int) {
	t.Helper()
	p, fault := held(t, text)
	m, tree, wrong := modelTreeOf(text, len(text))
	if wrong.Err != api.OK || m.most != going {
		t.Errorf("%s: of %s %d are going on at once, not %d; %+v", name, brief(text), m.most, going, wrong)
		return
	}
	_, depth := modelSize(modelProgram(tree))
	want := api.Fault{}
	if going > mostAtOnce {
		want = api.Fault{Err: api.ErrNested, Line: 1}
	} else if depth > mostNest {
		want = api.Fault{Err: api.ErrNested}
	}
	if want != fault {
		t.Errorf("%s, %d at once: Parse(%s) = %s, %+v; want %+v", name, going, brief(text), brief(sayProgram(p)), fault, want)
	}
}

// treeOf tells the depth and the size of a source's tree by the model, and
// whether it has one.
func treeOf(text string) (depth, size int, ok bool) {
	_, tree, fault := modelTree(text)
	if fault != (api.Fault{}) {
		return 0, 0, false
	}
	size, depth = modelSize(modelProgram(tree))
	return depth, size, true
}

// P14.1: 299, 300 and 301 rules of each kind within one another.
func TestNests(t *testing.T) {
	for _, n := range nests() {
		for times := 1; times < 400; times++ {
			going := n.going(times)
			if times > 3 && (going < mostAtOnce-4 || going > mostAtOnce+4) && times%37 != 0 {
				continue
			}
			text := strings.ReplaceAll(n.text(times), "\n", ";")
			nestIs(t, n.name, text, going)
			if going > mostAtOnce+4 {
				break
			}
		}
	}
}

// P14.1: the same mixed: some of one way within some of another one.
func TestMixedNests(t *testing.T) {
	const times = 70
	most := map[int]int{}
	for _, x := range nests() {
		for _, y := range nests() {
			if x.head != "" || y.head != "" {
				continue
			}
			least := max((mostAtOnce-x.going(times))/y.more-1, 0)
			for inner := least; inner < least+5; inner++ {
				text := strings.Repeat(x.open, times) + strings.Repeat(y.open, inner) + y.middle + strings.Repeat(y.shut, inner) + strings.Repeat(x.shut, times)
				if m, _, wrong := modelTreeOf(text, len(text)); wrong.Err == api.OK {
					nestIs(t, x.name+" and "+y.name, text, m.most)
					most[m.most]++
				}
			}
		}
	}
	if most[299] < 50 || most[300] < 50 || most[301] < 50 {
		t.Error(most)
	}
}

// P14.1: statements within one another, with expressions in the innermost one.
func TestNestsOfStatements(t *testing.T) {
	for times := range 300 {
		for _, parens := range []int{0, 1, 50, 100, 148, 149} {
			going := times + 1 + 2 + 2*parens
			if going < 296 || going > 304 {
				continue
			}
			inner := strings.Repeat("(", parens) + "a" + strings.Repeat(")", parens)
			for _, text := range []string{
				"{" + strings.Repeat("{", times) + inner + strings.Repeat("}", times) + "}",
				"{" + strings.Repeat("if (a) ", times) + inner + "}",
				"{" + strings.Repeat("do ", times) + inner + strings.Repeat("; while (a)", times) + "}",
				"{" + strings.Repeat("while (a) ", times) + "exit " + inner + "}",
				"{" + strings.Repeat("{", times) + "for (;;" + inner + ") ;" + strings.Repeat("}", times) + "}",
				"{" + strings.Repeat("for (a in b) ", times) + "delete t[" + inner + "] }",
			} {
				_, fault := held(t, text)
				if line := map[bool]int{true: 1}[going > mostAtOnce]; fault.Line != line || times < 50 && line == 0 && fault.Err != api.OK {
					t.Errorf("%d at once: Parse(%s) has %+v", going, brief(text), fault)
				}
			}
		}
	}
}

// P14.1: ErrNested has the line of the token that stands where one begins too
// much.
func TestNestLines(t *testing.T) {
	// Each ( in a line of its own, behind joined lines: the first two that are
	// going on are ahead of the first one.
	for _, parens := range []int{148, 149} {
		text := strings.Repeat("(\\\n", parens) + "a" + strings.Repeat(")", parens)
		tells(t, text, "rule a")
	}
	refuses(t, strings.Repeat("(\\\n", 150)+"a"+strings.Repeat(")", 150), api.ErrNested, 151)
	refuses(t, strings.Repeat("(\\\n", 200)+"a"+strings.Repeat(")", 200), api.ErrNested, 151)
	refuses(t, "{ "+strings.Repeat("(\\\n", 149)+"a"+strings.Repeat(")", 149)+" }", api.ErrNested, 150)
	refuses(t, strings.Repeat("-\\\n", 300)+"a", api.ErrNested, 300)
	refuses(t, strings.Repeat("-\\\n", 299)+"a", api.ErrNested, 300)
	refuses(t, strings.Repeat("-\\\n", 298)+"a", api.ErrNested, 0)
	refuses(t, strings.Repeat("$\\\n", 300)+"a", api.ErrNested, 300)
	refuses(t, strings.Repeat("$\\\n", 298)+"a", api.ErrNested, 0)
	refuses(t, "a"+strings.Repeat("^\\\nb", 300), api.ErrNested, 300)
	refuses(t, "a"+strings.Repeat("^\\\nb", 298), api.ErrNested, 0)
	refuses(t, strings.Repeat("a=\\\n", 300)+"b", api.ErrNested, 300)
	refuses(t, "{"+strings.Repeat("\n{", 301)+strings.Repeat("}", 302), api.ErrNested, 302)
	refuses(t, "{"+strings.Repeat("\n{", 300)+strings.Repeat("}", 301), api.ErrNested, 0)
	refuses(t, "{"+strings.Repeat("\nif (a)", 301)+" b }", api.ErrNested, 301-2+1)
	refuses(t, "{ if (a) ;"+strings.Repeat("\nelse if (a) ;", 400)+" }", api.ErrNested, 299)
	// What stands ahead of it counts, and nothing behind it.
	refuses(t, "a )\n"+strings.Repeat("(", 300), api.ErrSyntax, 1)
	refuses(t, strings.Repeat("(\\\n", 300)+"@", api.ErrNested, 151)
	refuses(t, strings.Repeat("(", 300)+" ) )", api.ErrNested, 1)
	refuses(t, strings.Repeat("(", 148)+"\\\n@", api.ErrToken, 2)
	refuses(t, strings.Repeat("(", 148)+"\\\n]", api.ErrSyntax, 2)
	// What has ended is not going on any more.
	tells(t, strings.Repeat("(", 149)+"a"+strings.Repeat(")", 149)+" "+strings.Repeat("(", 149)+"b"+strings.Repeat(")", 149), "rule (cat a b)")
	for _, sign := range []string{"+", "||", "~", ",", "^"} {
		_, fault := held(t, "("+strings.Repeat("(", 140)+"a"+strings.Repeat(")", 140)+sign+strings.Repeat("(", 140)+"b"+strings.Repeat(")", 140)+") in t")
		if fault.Err != api.OK {
			t.Errorf("%s: %+v", sign, fault)
		}
	}
	tells(t, strings.Repeat("(", 149)+"a"+strings.Repeat(")", 149)+strings.Repeat("\n{ a }", 100), "rule a"+strings.Repeat(" & rule {a}", 100))
}

// P14.1: args in parentheses have two rules fewer going on than the same as an
// expression; where they do not fit, the other way counts.
func TestNestsOfArgs(t *testing.T) {
	for parens := 140; parens < 155; parens++ {
		all := strings.Repeat("(", parens) + "a" + strings.Repeat(")", parens)
		lines := strings.Repeat("(\\\n", parens) + "a" + strings.Repeat(")", parens)
		if parens <= 149 {
			tells(t, "{ print "+all+" }", "rule {print:0 a}")
			tells(t, "{ printf "+all+" > b }", "rule {printf:1 a b}")
			tells(t, "{ print "+lines+" }", "rule {print:0 a}")
		} else {
			refuses(t, "{ print "+lines+" }", api.ErrNested, 150)
			refuses(t, "{ printf "+lines+" > b }", api.ErrNested, 150)
		}
		if parens <= 148 {
			tells(t, "{ print "+all+" b }", "rule {print:0 (cat a b)}")
			tells(t, "{ print "+all+", b }", "rule {print:0 a b}")
			tells(t, "{ print b, "+all+" }", "rule {print:0 b a}")
		} else {
			refuses(t, "{ print "+lines+" b }", api.ErrNested, 150)
			refuses(t, "{ print "+lines+", b }", api.ErrNested, 150)
			refuses(t, "{ print b, "+lines+" }", api.ErrNested, 150)
		}
	}
}

// P14.1: 60 levels of a tree may be, and no more.
func TestLevels(t *testing.T) {
	for depth := 59; depth < 62; depth++ {
		for _, n := range nests() {
			for times := range 62 {
				text := strings.ReplaceAll(n.text(times), "\n", ";")
				tree, _, ok := treeOf(text)
				if !ok || tree != depth {
					continue
				}
				if depth <= mostNest {
					if p, fault := held(t, text); fault != (api.Fault{}) {
						t.Errorf("%s, %d levels: %+v", n.name, depth, fault)
					} else if _, d := nodes.Size(p); d != depth {
						t.Errorf("%s: %d levels, not %d", n.name, d, depth)
					}
				} else {
					refuses(t, text, api.ErrNested, 0)
					refuses(t, "a\n"+text+"\nb", api.ErrNested, 0)
					refuses(t, text+"\n)", api.ErrSyntax, 2)
					refuses(t, text+"\n@", api.ErrToken, 2)
				}
			}
		}
		for _, sign := range []string{" ", "+", "||", "in t&&", "/"} {
			text := "a" + strings.Repeat(sign+"b", depth-1)
			tree, _, _ := treeOf(text)
			if want := map[bool]api.Errno{true: api.ErrNested}[tree > mostNest]; want != api.OK {
				refuses(t, text, want, 0)
			} else if _, fault := held(t, text); fault.Err != api.OK {
				t.Errorf("%q: %d levels: %+v", sign, tree, fault)
			}
		}
	}
	tells(t, strings.Repeat("-\\\n", 59)+"a", "rule "+strings.Repeat("(neg ", 59)+"a"+strings.Repeat(")", 59))
	refuses(t, strings.Repeat("- ", 60)+"a", api.ErrNested, 0)
	tells(t, "{"+strings.Repeat("{", 60)+strings.Repeat("}", 61), "rule "+strings.Repeat("{", 61)+strings.Repeat("}", 61))
	refuses(t, "{"+strings.Repeat("{", 61)+strings.Repeat("}", 62), api.ErrNested, 0)
}

// P14.1: 4000 parts may be, and no more.
func TestParts(t *testing.T) {
	for _, n := range []int{3999, 4000, 4001} {
		for _, text := range []string{
			strings.Repeat("a\n", n),
			strings.Repeat("a;", n-2) + "{ b }",
			"{" + strings.Repeat("\n;next", n) + "}",
			"{" + strings.Repeat("break;", n-2) + "a } ",
			"f(" + strings.Repeat("a,", n-2) + "\n\nb)",
			strings.Repeat("a,b;", n/2) + strings.Repeat("c", n%2),
			"{ print" + strings.Repeat(" a,", n-2) + "b }",
			"BEGIN {" + strings.Repeat("{}", n) + "}",
		} {
			if len(text) > mostSource {
				continue
			}
			_, size, ok := treeOf(text)
			if !ok || size != n {
				t.Fatalf("%s has %d parts, %v", brief(text), size, ok)
			}
			if n > mostNodes {
				refuses(t, text, api.ErrNested, 0)
			} else if p, fault := held(t, text); fault.Err != api.OK {
				t.Errorf("Parse(%s) has %+v", brief(text), fault)
			} else if size, _ := nodes.Size(p); size != n {
				t.Errorf("%s has %d parts", brief(text), size)
			}
			refuses(t, text+"\n)", api.ErrSyntax, 2+strings.Count(text, "\n"))
		}
	}
}

// P14.1: sources of 65536 bytes, and of one more.
func TestLongSources(t *testing.T) {
	for _, c := range [][3]string{{"a", "#", ""}, {"a", " ", ""}, {"a", "\n", ""}, {"a", ";", ""}, {"{ a", "\n", "}"}, {"a", "\\\n ", "b"}} {
		text := c[0] + strings.Repeat(c[1], (mostSource-len(c[0])-len(c[2]))/len(c[1]))
		text += strings.Repeat(" ", mostSource-len(text)-len(c[2])) + c[2]
		if p, fault := held(t, text); fault.Err != api.OK || len(p.Items) != 1 || len(text) != mostSource {
			t.Errorf("Parse(%s) = %s, %+v", brief(text), brief(sayProgram(p)), fault)
		}
		for _, more := range []string{" ", "\n", "@", text} {
			refuses(t, text+more, api.ErrLong, 0)
			refuses(t, more+text, api.ErrLong, 0)
		}
	}
	tells(t, strings.Repeat("n", mostSource), "rule "+strings.Repeat("n", mostSource))
	tells(t, "\""+strings.Repeat("n", mostSource-2)+"\"", "rule \""+strings.Repeat("n", mostSource-2)+"\"")
	tells(t, "/"+strings.Repeat("n", mostSource-2)+"/", "rule /"+strings.Repeat("n", mostSource-2)+"/")
	tells(t, "0."+strings.Repeat("0", mostSource-3)+"1", "rule 0")
	refuses(t, strings.Repeat("1", mostSource), api.ErrSyntax, 1)
	refuses(t, strings.Repeat("@", mostSource), api.ErrToken, 1)
	refuses(t, strings.Repeat("@", mostSource+1), api.ErrLong, 0)
	refuses(t, strings.Repeat(")", mostSource+1), api.ErrLong, 0)
	refuses(t, strings.Repeat("\n", mostSource-1)+"@", api.ErrToken, mostSource)
	refuses(t, strings.Repeat("\n", mostSource-1)+")", api.ErrSyntax, mostSource)
}

// R1: sources as long as may be of one thing end, and soon.
func TestManyOfOne(t *testing.T) {
	for _, one := range []string{"(", "{", "[", "$", "- ", "! ", "+", "++", "--", "a", "a ", "a b ", "a+", "a^", "a=", "a?", "a?b:", "a,", "a;", "a\n", "f(", "t[", "1", "1 ", "\"", "\"\"", "/", "//", "/a/ ", "getline<", "getline ", "getline|", "a|getline ", "a in t ", "print(", "print ", "{print(a", "if(a)", "if(a);else ", "do ", "while(a)", "for(;;)", "for(k in t)", "for(k in ", "function f(", "BEGIN{", "{}", "BEGIN{}", "length", "length ", "length(", "a&&\n", "a||", "$++", "((a,b)in ", "(a,", "@", "\\\n", "#\n", "}", ")", "]", "x[1]=", "$1=", ">", "a>", "a ~"} {
		text := strings.Repeat(one, mostSource/len(one))
		for _, around := range []string{"%", "{print (%"} {
			text := strings.Replace(around, "%", text[:(len(text)-len(around))/len(one)*len(one)], 1)
			if around == "%" {
				held(t, text)
			} else if p, fault := Parse(text); fault.Err != api.OK && p.Items != nil {
				t.Errorf("Parse(%s) has items beside %+v", brief(text), fault)
			}
		}
	}
}
