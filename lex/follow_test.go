package lex

import (
	"math/rand"
	"strings"
	"testing"

	"winnower/api"
)

// all tells the tokens of a source, one behind the other, up to its end or to
// what is none. A slash behind what ends an operand is a sign.
func all(text string) ([]api.Token, api.Fault) {
	var tokens []api.Token
	at, re := 0, true
	for {
		token, fault := Next(text, at, re)
		if fault != (api.Fault{}) {
			return tokens, fault
		}
		tokens = append(tokens, token)
		switch token.Kind {
		case api.TEnd:
			return tokens, fault
		case api.TNum, api.TStr, api.TRe, api.TName:
			re = false
		default:
			re = token.S != ")" && token.S != "]" && token.S != "$"
		}
		at = token.End
	}
}

// inOrder says that tokens rise, never overlap, have bytes of the source and
// lines that it has, and that what stands between them is passed over.
func inOrder(t *testing.T, text string, tokens []api.Token) {
	t.Helper()
	end := 0
	for i, token := range tokens {
		if token.At < end || token.End < token.At || token.End > len(text) || (token.End == token.At) != (token.Kind == api.TEnd) {
			t.Fatalf("token %d of %q is %+v, behind %d", i, text, token, end)
		}
		if token.Line != 1+strings.Count(text[:token.At], "\n") || token.Line != Line(text, token.At) {
			t.Fatalf("token %d of %q is %+v in line %d", i, text, token, Line(text, token.At))
		}
		if between := text[end:token.At]; modelOnce().passed.FindString(between) != between {
			t.Fatalf("ahead of token %d of %q there is %q", i, text, between)
		}
		end = token.End
	}
}

// sources are texts of the tokens' kinds, all of which are told up to the end.
func sources() []string {
	return []string{
		"", "\n", "x", "function f(a) { return a ~ /x\\/y/ ? \"t\\t\\060\" : .5e-2 } # end\n$1!~b>>\\\nc",
		"BEGIN { print 1+2*3 }\n", "$1 ~ /a/ { n++ }\nEND { print n }", "{ print a > \"f\" \"g\" }", "{ x = (i, j) in t }",
		"{ if (a) b; else c }", "/a/, /b/ { print \"in\", $0; next }\r\n{ print \"out\", $0 }",
		"BEGIN { while ((getline l < \"f\") > 0) n++; \"date\" | getline d; print n, d > \"o\"; close(\"o\") }",
		"f(a)f (a)+=-=1.e1 1..2 a/b/c/=/=d/ a&&b||!c!~d!=e\\\n#x\n\n#y",
		"1e5x1.5.5e\"\"\"\\\\\"\n//\n/=/ a/=2",
		"a\\\nb\\\n\\\n(\\\n)", "#\n#\n#", "a#b\nc", "\t\r x\t\r \n\t",
	}
}

// wild tells a source of tokens, with nothing, or what is passed over, between
// them.
func wild(r *rand.Rand) string {
	parts := append(append(words(), signs()...), "1", "1.5", ".5e-3", "2.", "1e", "x", "_a1", "f(", "\"\"", "\"a\\\"b\"", "\"\\101\\n\"", "/a/", "/\\//", "\n", "\n", "# a\n", "\\\n", " ", "\t", "\r")
	var text strings.Builder
	for range 1 + r.Intn(30) {
		text.WriteString(parts[r.Intn(len(parts))])
	}
	return text.String()
}

// P12.3: tokens told one behind the other never overlap, and rise, up to the
// source's end.
func TestTokensRise(t *testing.T) {
	for _, text := range sources() {
		tokens, fault := all(text)
		if fault != (api.Fault{}) {
			t.Errorf("%q: %+v", text, fault)
			continue
		}
		inOrder(t, text, tokens)
		if last := tokens[len(tokens)-1]; last.At != len(text) || last.End != len(text) {
			t.Errorf("the end of %q is %+v", text, last)
		}
	}
	r := seeded()
	for range 3000 {
		text := wild(r)
		tokens, _ := all(text)
		inOrder(t, text, tokens)
	}
}

// among tells a text with some of what is passed over ahead of each token, but
// between a name and its (: blanks right behind the token before, so that they
// are in no remark, and remarks right ahead of a line's end or the source's.
func among(text string, tokens []api.Token, blanks, remarks func() string) string {
	var more strings.Builder
	end := 0
	for i, token := range tokens {
		if i == 0 || tokens[i-1].Kind != api.TFunc {
			more.WriteString(blanks())
		}
		more.WriteString(text[end:token.At])
		if token.Kind == api.TLine || token.Kind == api.TEnd {
			more.WriteString(remarks())
		}
		more.WriteString(text[token.At:token.End])
		end = token.End
	}
	return more.String()
}

// alike says that two sources have the same tokens, but for places and lines.
func alike(t *testing.T, text, other string) {
	t.Helper()
	want, wantFault := all(text)
	got, fault := all(other)
	if len(got) != len(want) || fault.Err != wantFault.Err {
		t.Fatalf("%q has %d tokens, %+v; %q has %d, %+v", text, len(want), wantFault, other, len(got), fault)
	}
	for i, token := range got {
		if token.Kind != want[i].Kind || token.S != want[i].S || token.End-token.At != want[i].End-want[i].At {
			t.Fatalf("token %d of %q is %+v, of %q %+v", i, text, want[i], other, token)
		}
	}
	inOrder(t, other, got)
}

// P12.3: more of what is passed over changes nothing but places and lines.
func TestMoreIsPassedOver(t *testing.T) {
	r := seeded()
	many := sources()
	for range 1000 {
		many = append(many, wild(r))
	}
	blanks := []string{"", " ", "\t", "\r", "\\\n", " \\\n\t", "\\\n\\\n \r"}
	remarks := []string{"", "#", "# a", " #\"", "\t# \\", "#/#", "# \xff\x00@"}
	of := func(some []string) func() string {
		return func() string { return some[r.Intn(len(some))] }
	}
	for _, text := range many {
		tokens, fault := all(text)
		if fault != (api.Fault{}) {
			// Behind the last token there is what is none: nothing is put ahead of it.
			text = text[:tokenEnd(tokens)]
			if tokens, fault = all(text); fault != (api.Fault{}) {
				t.Fatalf("%q: %+v", text, fault)
			}
		}
		for i := range blanks {
			alike(t, text, among(text, tokens, of(blanks[i:i+1]), of(remarks[:1])))
			alike(t, text, among(text, tokens, of(blanks[:1]), of(remarks[i:i+1])))
			alike(t, text, among(text, tokens, of(blanks), of(remarks)))
		}
	}
}

func tokenEnd(tokens []api.Token) int {
	if len(tokens) == 0 {
		return 0
	}
	return tokens[len(tokens)-1].End
}

// P12.3: but between a name and (, and within texts and patterns.
func TestMoreThatCounts(t *testing.T) {
	sign, lpar := api.TSign, tok{api.TSign, "("}
	rowBoth(t, "f(", tok{api.TFunc, "f"}, lpar)
	for _, between := range []string{" ", "\t", "\r", "\\\n"} {
		rowBoth(t, "f"+between+"(", tok{api.TName, "f"}, lpar)
		rowBoth(t, "in"+between+"(", tok{api.TWord, "in"}, lpar)
		if between != "\\\n" {
			textOf(t, "a"+between+"b", "a"+between+"b")
			patternOf(t, "a"+between+"b", "a"+between+"b")
		}
		rowBoth(t, "a"+between+"b", tok{api.TName, "a"}, tok{api.TName, "b"})
		rowBoth(t, "+"+between+"=", tok{sign, "+"}, tok{sign, "="})
		rowBoth(t, "1"+between+"2", tok{api.TNum, "1"}, tok{api.TNum, "2"})
	}
	textOf(t, "a#b", "a#b")
	patternOf(t, "a#b", "a#b")
	noToken(t, "\"a\\\nb\"")
	faults(t, "/a\\\nb/", 0, true, api.ErrToken, 1)
}
