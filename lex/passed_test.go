package lex

import (
	"testing"

	"winnower/api"
)

// P12.2: what is passed over.
func TestPassedOver(t *testing.T) {
	for _, c := range []struct {
		text     string
		at, line int // of the name x
	}{
		{"x", 0, 1},
		{" x", 1, 1}, {"\tx", 1, 1}, {"\rx", 1, 1}, {" \t\r\r\t  x", 7, 1},
		{"\\\nx", 2, 2}, {" \\\n x", 4, 2}, {"\\\n\\\nx", 4, 3}, {"\t\\\n\r\\\n\\\n x", 9, 4},
		{"\\\n \\\n\t\\\n\rx", 9, 4},
	} {
		for _, re := range both {
			next(t, c.text, 0, re, api.Token{Kind: api.TName, S: "x", Line: c.line, At: c.at, End: c.at + 1})
			next(t, c.text+" \\\n#y", 0, re, api.Token{Kind: api.TName, S: "x", Line: c.line, At: c.at, End: c.at + 1})
		}
	}
}

// P12.2: what is passed over at a source's end, and ahead of a line's end.
func TestPassedOverAtEnds(t *testing.T) {
	for _, c := range []struct {
		text string
		line int
	}{
		{"", 1}, {" ", 1}, {"\t\r ", 1}, {"\\\n", 2}, {"#", 1}, {"# a", 1}, {"##", 1}, {"  #a#b", 1}, {"\\\n#\"", 2}, {"#/", 1}, {"# @\x00\xff", 1}, {"#\\", 1}, {"# a \\", 1}, {"#\r", 1}, {" \\\n \\\n # a", 3},
	} {
		for _, re := range both {
			at := len(c.text)
			next(t, c.text, 0, re, api.Token{Kind: api.TEnd, Line: c.line, At: at, End: at})
			next(t, c.text, at, re, api.Token{Kind: api.TEnd, Line: c.line, At: at, End: at})
		}
	}
	for _, c := range []struct {
		text string
		at   int
	}{
		{"\n", 0}, {" \n", 1}, {"\r\n", 1}, {"#\n", 1}, {"# a\n", 3}, {"\t#a#b \r\nx", 7},
		// In a remark a backslash joins no lines.
		{"#\\\nx", 2}, {"# a\\\n\\\n", 4}, {"#\\\r\nx", 3},
		{"#\n#\n", 1}, {"#\"\n\"", 2},
	} {
		for _, re := range both {
			next(t, c.text, 0, re, api.Token{Kind: api.TLine, Line: 1, At: c.at, End: c.at + 1})
		}
	}
	for _, re := range both {
		next(t, "\\\n\n", 0, re, api.Token{Kind: api.TLine, Line: 2, At: 2, End: 3})
		next(t, "\\\n#\\\n", 0, re, api.Token{Kind: api.TLine, Line: 2, At: 4, End: 5})
	}
}

// P12.2: bytes that are blanks elsewhere are none here, and a backslash is passed
// over ahead of a byte 10 alone.
func TestNotPassedOver(t *testing.T) {
	for _, text := range []string{"\v", "\f", "\x00", "\x1f", "\x7f", "\x85", "\xa0", "\u00a0", "\u0085", "\u2028", "\u3000", "\ufeff",
		"\\", "\\x", "\\\\", "\\\\\n", "\\\r\n", "\\ \n", "\\\t\n", "\\#\n", "\\\"", "\\/", "\\(", "\\\x00", "\\\xff", "\\n"} {
		noToken(t, text)
		noToken(t, text+"x")
		noToken(t, " \t\r"+text+" ")
		for _, re := range both {
			faults(t, "\\\n"+text+"x\n", 0, re, api.ErrToken, 2)
			faults(t, "x"+text, 1, re, api.ErrToken, 1)
		}
	}
}

// P12.2: a place within something is a place like each other.
func TestPlacesWithin(t *testing.T) {
	for _, c := range []struct {
		text string
		at   int
		re   bool
		want api.Token
	}{
		{"# if x", 0, false, api.Token{Kind: api.TEnd, Line: 1, At: 6, End: 6}},
		{"# if x", 1, false, api.Token{Kind: api.TWord, S: "if", Line: 1, At: 2, End: 4}},
		{"# if x", 3, false, api.Token{Kind: api.TName, S: "f", Line: 1, At: 3, End: 4}},
		{"function", 1, false, api.Token{Kind: api.TName, S: "unction", Line: 1, At: 1, End: 8}},
		{"begin", 3, false, api.Token{Kind: api.TWord, S: "in", Line: 1, At: 3, End: 5}},
		{"a12(", 1, false, api.Token{Kind: api.TNum, S: "12", Line: 1, At: 1, End: 3}},
		{"ab(", 1, false, api.Token{Kind: api.TFunc, S: "b", Line: 1, At: 1, End: 2}},
		{"\"ab\" c\"", 1, false, api.Token{Kind: api.TName, S: "ab", Line: 1, At: 1, End: 3}},
		{"\"ab\" c\"", 3, false, api.Token{Kind: api.TStr, S: " c", Line: 1, At: 3, End: 7}},
		{"\"a\\\"b\"", 3, false, api.Token{Kind: api.TStr, S: "b", Line: 1, At: 3, End: 6}},
		{"/a\\/b/", 3, true, api.Token{Kind: api.TRe, S: "b", Line: 1, At: 3, End: 6}},
		{"/a\\/b/", 3, false, api.Token{Kind: api.TSign, S: "/", Line: 1, At: 3, End: 4}},
		{"12.5e-3", 1, false, api.Token{Kind: api.TNum, S: "2.5e-3", Line: 1, At: 1, End: 7}},
		{"12.5e-3", 2, false, api.Token{Kind: api.TNum, S: ".5e-3", Line: 1, At: 2, End: 7}},
		{"12.5e-3", 4, false, api.Token{Kind: api.TName, S: "e", Line: 1, At: 4, End: 5}},
		{"12.5e-3", 5, false, api.Token{Kind: api.TSign, S: "-", Line: 1, At: 5, End: 6}},
		{"+=", 1, false, api.Token{Kind: api.TSign, S: "=", Line: 1, At: 1, End: 2}},
		{"||", 1, false, api.Token{Kind: api.TSign, S: "|", Line: 1, At: 1, End: 2}},
		{"!~", 1, false, api.Token{Kind: api.TSign, S: "~", Line: 1, At: 1, End: 2}},
		{"/=", 1, true, api.Token{Kind: api.TSign, S: "=", Line: 1, At: 1, End: 2}},
		{" \\\nx", 2, false, api.Token{Kind: api.TLine, Line: 1, At: 2, End: 3}},
		{"  x", 1, false, api.Token{Kind: api.TName, S: "x", Line: 1, At: 2, End: 3}},
		{"\n\nx", 1, false, api.Token{Kind: api.TLine, Line: 2, At: 1, End: 2}},
	} {
		next(t, c.text, c.at, c.re, c.want)
	}
	faults(t, "&&", 1, false, api.ErrToken, 1)
	faults(t, "\n1.", 2, false, api.ErrToken, 2)
	faults(t, "a\u00e9", 2, true, api.ErrToken, 1)
}
