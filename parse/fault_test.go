package parse

import (
	"slices"
	"strings"
	"testing"

	"winnower/api"
)

// P14.1: a token that is none: as the first one, and right behind each token of a
// source, whatever stands behind it.
func TestNoTokens(t *testing.T) {
	none := []string{"@", "\"open", "&", ".", "\\a", "'", "`", "\x00", "\v", "\x80", "\xff", "\"a\\\nb\"", "\"a\nb\""}
	for _, n := range none {
		for _, ahead := range []string{"", " ", "\\\n", "\n", "# x\n", ";", "{ ", "BEGIN ", "BEGIN { ", "a ", "a + ", "{ print ", "{ print ( ", "{ print (a) ", "{ print (a, b) ", "{ print (a, b) > ", "{ for ( ", "{ for (k ", "{ for (k in ", "{ for (k in t ", "{ for (k in t) ", "{ for (;; ", "function ", "function f ", "function f(", "function f(a, ", "{ if (a) ", "{ if (a) b; ", "{ if (a) b; else ", "{ do ; ", "{ x[ ", "{ f( ", "{ (a, ", "{ (a, b) ", "{ a ? b ", "{ exit ", "{ getline ", "{ getline < ", "{ a | ", "{ $ ", "{ ++ ", "{ a ++ ", "{ a ~ /x/ ", "{ a } "} {
			line := 1 + strings.Count(ahead, "\n")
			refuses(t, ahead+n, api.ErrToken, line)
			refuses(t, ahead+"\\\n"+n, api.ErrToken, line+1)
			for _, behind := range []string{" ) ", " }", "\n@", " a", strings.Repeat("\n(", 400)} {
				refuses(t, ahead+n+behind, api.ErrToken, line)
			}
		}
	}
	for _, text := range rulesSources() {
		tokens := strings.Split(text, " ")
		for at := range tokens {
			some := append(slices.Clone(tokens[:at]), "\\\n@", ")", "@")
			joined := strings.Join(some, " ")
			refuses(t, joined, api.ErrToken, 1+strings.Count(joined[:strings.Index(joined, "@")], "\n"))
		}
	}
}

// P14.1: what stands behind a token that may not stand where it does is not read,
// and one that is ahead of it counts first.
func TestFirstFault(t *testing.T) {
	for _, text := range []string{"{ ) @", "{ a = = @", "{ 1 = @", "{ (a, b) } @", "BEGIN x @", "BEGIN\n@", "a ] @", "{ print > > @", "{ print (a, b) c @", "{ for (k in 1 @", "{ for (k in t } @", "{ for () @", "{ if a @", "{ a b ~ c ~ @", "{ f(, @", "function f(1 @", "{ x[ ] @", "{ else @", "{ ( ) \"open", "{ a ) \"open", "} \"open", ") /open", "{ = /open", "{ 1e999 @", "{ x = 1e999 @", "{ do ; a @", "{ exit exit @", "a , b , @", "a function @", "{ next a @", "{ delete 1 @"} {
		refuses(t, text, api.ErrSyntax, 1)
		refuses(t, text+"\n", api.ErrSyntax, 1)
		refuses(t, "\n\n"+text, api.ErrSyntax, 3)
		refuses(t, strings.ReplaceAll(text, "@", "\\\n@"), api.ErrSyntax, 1)
	}
	for _, text := range []string{"{ @ )", "{ a @ )", "{ a = @ = ", "\"open )", "{ f(@ ,", "{ print (a @ b) > >", "{ for (k @ in ) )", "{ for (k in @ ) )", "{ for (k in t @ ) )", "{ a ~ /open ) ", "{ /= ) }", "{ print /a ) > > }", "{ print (/a) ) }"} {
		refuses(t, text, api.ErrToken, 1)
		refuses(t, text+"\n"+text, api.ErrToken, 1)
	}
	// A fault of an item counts ahead of those behind it, and of what is too much.
	refuses(t, "{ a }\n{ ) }\n{ @ }", api.ErrSyntax, 2)
	refuses(t, "{ a }\n{ @ }\n{ ) }", api.ErrToken, 2)
	refuses(t, strings.Repeat("a;", 4001)+"\n)", api.ErrSyntax, 2)
	refuses(t, strings.Repeat("a;", 4001)+"\n@", api.ErrToken, 2)
	refuses(t, strings.Repeat("- ", 100)+"a\n)", api.ErrSyntax, 2)
	refuses(t, ")\n"+strings.Repeat("- ", 400), api.ErrSyntax, 1)
	refuses(t, "@\n"+strings.Repeat("- ", 400), api.ErrToken, 1)
	refuses(t, strings.Repeat("- ", 400)+"\n)\n@", api.ErrNested, 1)
}

// P14.1: ErrSyntax has the line of the token, of the end of the source too, behind
// line's ends, remarks and joined lines.
func TestSyntaxLines(t *testing.T) {
	for _, c := range []struct {
		text string
		line int
	}{
		{")", 1}, {"\n)", 2}, {"# a\n\n )", 3}, {"\\\n)", 2}, {"a \\\n\\\n )", 3}, {"{", 1}, {"{\n", 2}, {"{\n\n\n", 4}, {"{ # a", 1}, {"{ # a\n", 2}, {"{\\\n", 2}, {"{ a", 1}, {"{ a\n", 2}, {"{ a;\n\n", 3}, {"{ a \\\n\\\n", 3}, {"BEGIN", 1}, {"BEGIN\n", 1}, {"BEGIN\\\n", 2}, {"BEGIN \\\n\n", 2}, {"a,", 1}, {"a,\n", 2}, {"a,\n\n\n", 4}, {"a +", 1}, {"a +\n", 1}, {"a +\\\n", 2}, {"a +\\\n\n", 2}, {"a &&", 1}, {"a &&\n\n", 3}, {"a &&\n # b\n)", 3},
		{"f(", 1}, {"f(\n", 1}, {"f(a,\n\n", 3}, {"f(a,\n\n)", 3}, {"f(a\\\n", 2}, {"a ? b :\n\n", 3}, {"a ?\nb\n:", 2}, {"{ if (a)\n\n", 3}, {"{ if (a) b\n\nelse\n\n", 5}, {"{ if (a\n) b }", 1}, {"{ do\n\na\n\nb }", 5}, {"{ do a\n\n", 3}, {"{ for (;\n;\n", 3}, {"{ for (;\n;\n) ", 3}, {"{ for (a\n;;) ", 1}, {"{ for (k in\nt) ", 1}, {"{ for (k in t)\n\n}", 3}, {"{ print a,\n\n", 3}, {"{ print a,\n\n> b }", 3}, {"{ print (a,\nb) c }", 2}, {"{ print (a,\n\nb)\\\n c }", 4}, {"{ print a >\n", 1}, {"{ print a > \\\n\\\n}", 3}, {"{ printf", 1}, {"{ printf\n", 1}, {"function f(a,\n\n", 3}, {"function f(a)\n\n;", 3}, {"function f(a)\n\nb", 3}, {"{ x = \"a\" \\\n = 1 }", 2}, {"{ (a,\n\nb)\\\n}", 4}, {"{ a }\n\n\n}", 4}, {"{ 1e999 }", 1}, {"{ a +\\\n1e999 }", 2}, {"{ \"a\\tb\"\n\n) }", 3},
	} {
		refuses(t, c.text, api.ErrSyntax, c.line)
		refuses(t, "\n"+c.text, api.ErrSyntax, c.line+1)
		refuses(t, "{ a }; # b\n\\\n;"+c.text, api.ErrSyntax, c.line+2)
	}
}

// P14.1: what does not fit of what is looked at ahead is no fault: what counts is
// how the other way ends.
func TestLookedAtAhead(t *testing.T) {
	for _, c := range []struct {
		text string
		err  api.Errno
		line int
	}{
		{"{ for (k in t) @", api.ErrToken, 1}, {"{ for (k in t)\\\n@", api.ErrToken, 2}, {"{ for (k in t @)", api.ErrToken, 1}, {"{ for (k in @) )", api.ErrToken, 1}, {"{ for (k @ in t)", api.ErrToken, 1}, {"{ for (@ in t)", api.ErrToken, 1}, {"{ for (k in t) )", api.ErrSyntax, 1}, {"{ for (k in t;\\\n@", api.ErrToken, 2}, {"{ for (k in t\\\n]", api.ErrSyntax, 2}, {"{ for (k in \\\n\"t\")", api.ErrSyntax, 2}, {"{ for (k in t; ]", api.ErrSyntax, 1}, {"{ for (k in t in\\\n1;;) ;", api.ErrSyntax, 2},
		{"{ print (a) @", api.ErrToken, 1}, {"{ print (a, b) @", api.ErrToken, 1}, {"{ print (a, @) )", api.ErrToken, 1}, {"{ print (a,\n@) > b }", api.ErrToken, 2}, {"{ print (@", api.ErrToken, 1}, {"{ print (a) > @", api.ErrToken, 1}, {"{ print (a, b) > @", api.ErrToken, 1}, {"{ print (a, b) > \\\n}", api.ErrSyntax, 2}, {"{ print (a, b)\\\n c }", api.ErrSyntax, 2}, {"{ print (a, b \\\n; c) }", api.ErrSyntax, 2}, {"{ print (a, b) in \\\n1 }", api.ErrSyntax, 2}, {"{ print (a, b) in t > c,\\\nd }", api.ErrSyntax, 1}, {"{ print (a)(b > c) > d > e }", api.ErrSyntax, 1}, {"{ print (a, /b) }", api.ErrToken, 1}, {"{ print (a, /b/) /c/ }", api.ErrSyntax, 1}, {"{ print (a)\\\n/c/ }", api.ErrSyntax, 2}, {"{ print (1e999) }", api.ErrSyntax, 1}, {"{ print (a,\\\n1e999) > b }", api.ErrSyntax, 2}, {"{ print (a) 1e999 }", api.ErrSyntax, 1},
	} {
		refuses(t, c.text, c.err, c.line)
		refuses(t, "{ a }\n"+c.text, c.err, c.line+1)
	}
	tells(t, "{ print (a) /b/ c }", "rule {print:0 (/ (/ a b) c)}")
	tells(t, "{ print (a, /b/) }", "rule {print:0 a /b/}")
	// Many of them within one another, and one behind the other.
	loops := strings.Repeat("for (k in t) ", 57)
	tells(t, "{ "+loops+"print (a) b }", "rule {"+strings.Repeat("for k in t {", 57)+"print:0 (cat a b)"+strings.Repeat("}", 57)+"}")
	refuses(t, "{ "+loops+"print (a) @", api.ErrToken, 1)
	refuses(t, "{ "+loops+"for (k in t @", api.ErrToken, 1)
	refuses(t, "{ "+loops+"for (k in t ]", api.ErrSyntax, 1)
	refuses(t, "{ "+strings.Repeat("for (k in t;;) ", 290)+"print (a) b }", api.ErrNested, 0)
	deep := strings.Repeat("(", 100) + "a" + strings.Repeat(")", 100)
	prints := strings.Repeat("print "+deep+" b;\n", 100)
	tells(t, "{ "+prints+" }", "rule {"+strings.Repeat("print:0 (cat a b); ", 99)+"print:0 (cat a b)}")
	refuses(t, "{ "+prints+"@ }", api.ErrToken, 101)
	refuses(t, "{ "+prints+"print "+deep+" > }", api.ErrSyntax, 101)
}

// R4: what was asked ahead of a call turns nothing, and a source says the same
// each time.
func TestCallsByThemselves(t *testing.T) {
	sources := append(rulesSources(), "{ print (a) @", "{ for (k in t", strings.Repeat("(", 200), strings.Repeat("a;", 4001), "")
	for _, first := range sources {
		for _, then := range sources {
			want, wantFault := Parse(then)
			Parse(first)
			if p, fault := Parse(then); fault != wantFault || !same(p, want) {
				t.Errorf("behind %s Parse(%s) = %s, %+v", brief(first), brief(then), brief(sayProgram(p)), fault)
			}
		}
	}
}
