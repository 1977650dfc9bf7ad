package lex

import (
	"slices"
	"strings"
	"testing"

	"winnower/api"
)

// P12.2: each sign by itself, and ahead of what is none.
func TestSigns(t *testing.T) {
	if len(signs()) != 39 {
		t.Error(len(signs()))
	}
	for _, sign := range signs() {
		whole(t, sign, false, api.TSign, sign)
		if sign[0] == '/' {
			continue
		}
		whole(t, sign, true, api.TSign, sign)
		for _, behind := range []string{" ", " =", "\n", "\n=", "a", "1", "_", ".", "\"", "#", "#=", "\\\n=", "\\=", "@", "\x00", "\xff", "\x00=", "&", "'"} {
			if sign+behind != "&&" {
				begins(t, sign+behind, api.TSign, sign)
			}
		}
	}
}

// longest tells the longest sign that a text begins with.
func longest(text string) string {
	best := ""
	for _, sign := range signs() {
		if strings.HasPrefix(text, sign) && len(sign) > len(best) {
			best = sign
		}
	}
	return best
}

// P12.2: each sign ahead of each other one, and of each byte: the longest counts.
func TestSignsAheadOfSigns(t *testing.T) {
	behind := signs()
	for b := range 256 {
		behind = append(behind, string([]byte{byte(b)}))
	}
	for _, sign := range signs() {
		for _, more := range behind {
			text := sign + more
			want := longest(text)
			next(t, text, 0, false, api.Token{Kind: api.TSign, S: want, Line: 1, End: len(want)})
			if sign[0] != '/' {
				next(t, text, 0, true, api.Token{Kind: api.TSign, S: want, Line: 1, End: len(want)})
			}
		}
	}
}

func TestRowsOfSigns(t *testing.T) {
	for text, want := range map[string][]string{
		"+++": {"++", "+"}, "++++": {"++", "++"}, "---=": {"--", "-="}, "+=+": {"+=", "+"}, "===": {"==", "="}, "!==": {"!=", "="}, "!!=": {"!", "!="}, "!~~": {"!~", "~"}, "!=~": {"!=", "~"}, "=~": {"=", "~"}, "~=": {"~", "="}, ">>>": {">>", ">"}, ">>=": {">>", "="}, ">=>": {">=", ">"}, "<<=": {"<", "<="}, "<>": {"<", ">"}, "|||": {"||", "|"}, "||||": {"||", "||"}, "| |": {"|", "|"}, "&&&&": {"&&", "&&"}, "^^=": {"^", "^="}, "**=": {"*", "*="}, "**": {"*", "*"}, "%%=": {"%", "%="}, "//=": {"/", "/="}, "/==": {"/=", "="}, "=/=": {"=", "/="}, "+ =": {"+", "="}, "+\\\n+": {"+", "+"}, "$$": {"$", "$"}, "?:": {"?", ":"}, "({[]});,": {"(", "{", "[", "]", "}", ")", ";", ","},
	} {
		var tokens []tok
		for _, sign := range want {
			tokens = append(tokens, tok{api.TSign, sign})
		}
		row(t, text, false, tokens...)
		if !strings.Contains(text, "/") {
			row(t, text, true, tokens...)
		}
	}
}

// P12.2: a & alone is none, wherever it stands.
func TestAmpersandAlone(t *testing.T) {
	for _, text := range []string{"&", "& ", "& &", "&\n&", "&\\\n&", "&=", "&a", "&|", "&\x00", "&\"a\""} {
		noToken(t, text)
	}
	for _, re := range both {
		faults(t, "&&&", 2, re, api.ErrToken, 1)
		faults(t, "|&", 1, re, api.ErrToken, 1)
	}
}

// P12.2: without patterns a slash is a sign, whatever stands behind it.
func TestSlashes(t *testing.T) {
	for _, text := range []string{"/", "/a/", "/a", "//", "/\\//", "/\n", "/ =", "/\\\n=", "/\x00", "/\xff/", "/[/]/"} {
		next(t, text, 0, false, api.Token{Kind: api.TSign, S: "/", Line: 1, End: 1})
	}
	for _, text := range []string{"/=", "/=/", "/==", "/=a/", "/=\n"} {
		next(t, text, 0, false, api.Token{Kind: api.TSign, S: "/=", Line: 1, End: 2})
	}
}

// P12.2: each byte from 0 to 255 alone.
func TestEachByteAlone(t *testing.T) {
	for b := range 256 {
		text := string([]byte{byte(b)})
		for _, re := range both {
			switch {
			case b == ' ' || b == '\t' || b == '\r' || b == '#':
				next(t, text, 0, re, api.Token{Kind: api.TEnd, Line: 1, At: 1, End: 1})
			case b == '\n':
				next(t, text, 0, re, api.Token{Kind: api.TLine, Line: 1, End: 1})
			case strings.Contains(letters, text):
				whole(t, text, re, api.TName, text)
			case '0' <= b && b <= '9':
				whole(t, text, re, api.TNum, text)
			case slices.Contains(signs(), text) && !(b == '/' && re):
				whole(t, text, re, api.TSign, text)
			default:
				faults(t, text, 0, re, api.ErrToken, 1)
				faults(t, text+"x", 0, re, api.ErrToken, 1)
				faults(t, "\n"+text+"x\n", 1, re, api.ErrToken, 2)
			}
		}
	}
	for _, text := range []string{"'", "`", "@", "'a'", "`a`", "\\", "&", ".", "\"", "\u00e9", "\u03c0", "\U0001f600"} {
		noToken(t, text)
	}
}
