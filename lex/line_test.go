package lex

import (
	"strings"
	"testing"

	"winnower/api"
)

// P12.1: 1, and one more for each byte 10 ahead of the place.
func TestLine(t *testing.T) {
	for _, c := range []struct {
		text  string
		lines []int // of the places from 0 up to the text's length
	}{
		{"", []int{1}},
		{"a", []int{1, 1}},
		{"\n", []int{1, 2}},
		{"a\nb\n", []int{1, 1, 2, 2, 3}},
		{"\n\n\n", []int{1, 2, 3, 4}},
		{"a\r\nb", []int{1, 1, 1, 2, 2}},
		{"\r\v\f\x00\x85", []int{1, 1, 1, 1, 1, 1}},
		{"#\n\"\n", []int{1, 1, 2, 2, 3}},
		{"\\\n\\\n", []int{1, 1, 2, 2, 3}},
		{"\u2028\u010a", []int{1, 1, 1, 1, 1, 1}},
	} {
		for at, want := range c.lines {
			if got := Line(c.text, at); got != want {
				t.Errorf("Line(%q, %d) = %d; want %d", c.text, at, got, want)
			}
		}
		for _, at := range outside(len(c.text)) {
			if got := Line(c.text, at); got != 0 {
				t.Errorf("Line(%q, %d) = %d; want 0", c.text, at, got)
			}
		}
	}
}

// Line holds of texts of any length, longer than a source may be, too.
func TestLineOfLongTexts(t *testing.T) {
	for _, length := range []int{mostSource, mostSource + 1, 3 * mostSource} {
		text := strings.Repeat("\n", length)
		for _, at := range []int{0, 1, mostSource - 1, mostSource, length - 1, length} {
			if got := Line(text, at); got != at+1 {
				t.Errorf("Line(%d bytes 10, %d) = %d", length, at, got)
			}
		}
		for _, at := range outside(length) {
			if got := Line(text, at); got != 0 {
				t.Errorf("Line(%d bytes 10, %d) = %d", length, at, got)
			}
		}
	}
}

// P12.1: each byte but 10 leaves the line as it is.
func TestLineOfEachByte(t *testing.T) {
	for b := range 256 {
		want := 1
		if b == 10 {
			want = 2
		}
		text := string([]byte{byte(b), 'x'})
		for at, line := range []int{1, want, want} {
			if got := Line(text, at); got != line {
				t.Errorf("Line(%q, %d) = %d; want %d", text, at, got, line)
			}
		}
	}
}

// P12.2: a token's line is that of its first byte: behind some lines, behind
// joined ones, and when the token is a line's end itself.
func TestLineOfTokens(t *testing.T) {
	for _, c := range []struct {
		ahead string
		line  int
	}{
		{"", 1}, {" ", 1}, {"\\\n", 2}, {" \\\n\t\\\n\r", 3}, {"\\\n\\\n\\\n\\\n", 5},
	} {
		for _, own := range []struct {
			text string
			kind api.TokKind
			says string
		}{
			{"1.5", api.TNum, "1.5"}, {"\"\\n\"", api.TStr, "\n"}, {"/a/", api.TRe, "a"}, {"abc", api.TName, "abc"}, {"in", api.TWord, "in"}, {"+=", api.TSign, "+="}, {"\n", api.TLine, ""}, {"", api.TEnd, ""},
		} {
			at := len(c.ahead)
			next(t, c.ahead+own.text, 0, true, api.Token{Kind: own.kind, S: own.says, Line: c.line, At: at, End: at + len(own.text)})
			if own.kind != api.TEnd {
				next(t, c.ahead+own.text+"\n\n", 0, true, api.Token{Kind: own.kind, S: own.says, Line: c.line, At: at, End: at + len(own.text)})
			}
			lines := "a\n\n#x\n" + c.ahead + own.text
			next(t, lines, 6, true, api.Token{Kind: own.kind, S: own.says, Line: c.line + 3, At: at + 6, End: len(lines)})
		}
		for _, none := range []string{"@", "\"a", "\"a\n\"", "/a", "/a\n/", ".", "&", "\\", "\\x\n", "\x00", "\xff"} {
			faults(t, c.ahead+none, 0, true, api.ErrToken, c.line)
			faults(t, "a\n\n#x\n"+c.ahead+none, 6, true, api.ErrToken, c.line+3)
		}
	}
	next(t, "a\n\n", 1, false, api.Token{Kind: api.TLine, Line: 1, At: 1, End: 2})
	next(t, "a\n\n", 2, false, api.Token{Kind: api.TLine, Line: 2, At: 2, End: 3})
	next(t, "a\n\n", 3, false, api.Token{Kind: api.TEnd, Line: 3, At: 3, End: 3})
	next(t, "a # b", 1, false, api.Token{Kind: api.TEnd, Line: 1, At: 5, End: 5})
	next(t, "a # b\n", 1, false, api.Token{Kind: api.TLine, Line: 1, At: 5, End: 6})
}
