package lex

import (
	"strconv"
	"strings"
	"testing"

	"winnower/api"
)

// textOf says what the text of some bytes between quotes says.
func textOf(t *testing.T, between, says string) {
	t.Helper()
	text := "\"" + between + "\""
	for _, re := range both {
		whole(t, text, re, api.TStr, says)
		next(t, text+"\"x", 0, re, api.Token{Kind: api.TStr, S: says, Line: 1, End: len(text)})
		next(t, "a "+text+"\n", 1, re, api.Token{Kind: api.TStr, S: says, Line: 1, At: 2, End: 2 + len(text)})
	}
}

// P12.2: what texts say, and where they end.
func TestTexts(t *testing.T) {
	for _, says := range []string{"", "a", "abc", " ", "\t\r\v\f", "#", "# a", "/", "//", "(", "in", "1", "'", "%d", "\x00", "\xff", "\x80\x00", "\u00e9", "a\x00b", "\xe2\x82", strings.Repeat("ab ", 9000)} {
		textOf(t, says, says)
	}
	for between, says := range map[string]string{
		`\"`: "\"", `\\`: "\\", `\/`: "/", `\a`: "\x07", `\b`: "\x08", `\f`: "\x0c", `\n`: "\x0a", `\r`: "\x0d", `\t`: "\x09", `\v`: "\x0b",
		`a\"b`: "a\"b", `\"\"`: "\"\"", `\\\"`: "\\\"", `\\\\`: "\\\\", `\\n`: "\\n", `\\\n`: "\\\n", `a\/b/c`: "a/b/c", `\\a`: "\\a", `\\/`: "\\/",
		`\a\b\f\n\r\t\v`: "\a\b\f\n\r\t\v", `x\ty\nz`: "x\ty\nz", `a\n\101`: "a\nA",
		"a\xff\\n\xff": "a\xff\n\xff", "\xe2\\\"\x82": "\xe2\"\x82",
	} {
		textOf(t, between, says)
	}
	next(t, "\"\"\"\"", 0, false, api.Token{Kind: api.TStr, Line: 1, End: 2})
	next(t, "\"a\"b\"", 0, false, api.Token{Kind: api.TStr, S: "a", Line: 1, End: 3})
	next(t, "\"a\\\\\"b\"", 0, false, api.Token{Kind: api.TStr, S: "a\\", Line: 1, End: 5})
	rowBoth(t, "\"a\"\"b\"", tok{api.TStr, "a"}, tok{api.TStr, "b"})
	rowBoth(t, "\"a\"b\"c\"", tok{api.TStr, "a"}, tok{api.TName, "b"}, tok{api.TStr, "c"})
	rowBoth(t, "\"#\"#\"", tok{api.TStr, "#"})
}

// P12.2: one to three digits from 0 to 7, as many as there are, modulo 256.
func TestTextsByNumber(t *testing.T) {
	for n := range 512 {
		says := string([]byte{byte(n % 256)})
		digits := strconv.FormatInt(int64(n), 8)
		long := strings.Repeat("0", 3-len(digits)) + digits
		textOf(t, `\`+long, says)
		textOf(t, `\`+digits, says)
		for _, behind := range []string{"0", "7", "8", "9", "a", "\\\\", " ", "\xff"} {
			want := behind
			if behind == "\\\\" {
				want = "\\"
			}
			textOf(t, `\`+long+behind, says+want)
			if behind > "7" || behind == " " {
				textOf(t, `\`+digits+behind, says+want)
			}
		}
	}
	for between, says := range map[string]string{
		`\0`: "\x00", `\00`: "\x00", `\000`: "\x00", `\0000`: "\x000", `\7`: "\x07", `\77`: "\x3f", `\777`: "\xff", `\7777`: "\xff7", `\400`: "\x00", `\401`: "\x01", `\377`: "\xff", `\8`: `\8`, `\9`: `\9`, `\80`: `\80`, `\08`: "\x008", `\18`: "\x018", `\079`: "\x079", `\0619`: "19", `\1\2\3`: "\x01\x02\x03", `\1a2`: "\x01a2", `\101\102`: "AB", `\\101`: `\101`, `\61\061`: "11", `\42`: "\"", `\0421`: "\"1", `\134n`: `\n`, `\12`: "\n", `\x41`: `\x41`, `\1.`: "\x01.", `\-1`: `\-1`,
	} {
		textOf(t, between, says)
	}
}

// P12.2: at anything else both bytes are said as they are.
func TestMarksOfEachByte(t *testing.T) {
	single := map[byte]int{'"': 34, '\\': 92, '/': 47, 'a': 7, 'b': 8, 'f': 12, 'n': 10, 'r': 13, 't': 9, 'v': 11, '0': 0, '1': 1, '2': 2, '3': 3, '4': 4, '5': 5, '6': 6, '7': 7}
	for b := range 256 {
		if b == '\n' {
			continue
		}
		one := string([]byte{byte(b)})
		says := "\\" + one
		if number, is := single[byte(b)]; is {
			says = string([]byte{byte(number)})
		}
		textOf(t, "\\"+one, says)
		textOf(t, "x\\"+one+"y", "x"+says+"y")
		textOf(t, "\\\\\\"+one, "\\"+says)
		if b != '"' && b != '\\' {
			textOf(t, one, one)
			textOf(t, "\\\\"+one, "\\"+one)
		}
	}
	textOf(t, "\\\u00e9", "\\\u00e9")
	textOf(t, "\\q\\.\\&\\(", "\\q\\.\\&\\(")
}

// P12.2: a text that does not end in its line is none.
func TestTextsWithoutEnd(t *testing.T) {
	for _, text := range []string{"\"", "\"a", "\"a\n", "\"\n\"", "\"a\nb\"", "\"\\\"", "\"a\\\"", "\"a\\\"\n\"", "\"\\", "\"a\\", "\"\\\\\\\"", "\"\\\\\\", "\"\\\n\"", "\"a\\\nb\"", "\"a\\\\\n\"", "\"\\1", "\"\\101", "\"\\101\n\"", "\"a#", "\"\xff", "\"\xe2\n\"", "\"" + strings.Repeat("a", mostSource-1)} {
		noToken(t, text)
	}
	for _, re := range both {
		faults(t, "a\n \"b\nc", 2, re, api.ErrToken, 2)
		faults(t, "a \\\n \"b", 1, re, api.ErrToken, 2)
	}
	textOf(t, "\r", "\r")
}

// patternOf says what the pattern of some bytes between slashes says.
func patternOf(t *testing.T, between, says string) {
	t.Helper()
	text := "/" + between + "/"
	whole(t, text, true, api.TRe, says)
	next(t, text+"/x", 0, true, api.Token{Kind: api.TRe, S: says, Line: 1, End: len(text)})
	next(t, "a \\\n"+text+"\n", 1, true, api.Token{Kind: api.TRe, S: says, Line: 2, At: 4, End: 4 + len(text)})
}

// P12.2: what patterns say, and where they end.
func TestPatterns(t *testing.T) {
	for _, says := range []string{"", "a", "=", "=a", "==", " ", "#", "# a", "\"", "\"a\"", "(", "a|b", "[a-z]+", "[", "]", "[^", "^$", "\t\r\v\f", "\x00", "\xff", "\x80", "\u00e9", "'", `\\`, `\.`, `\n`, `\"`, `\101`, `\8`, `a\\`, `\\\\`, `\[`, `\]`, `[\]`, "\\\xff", "\\\x00", "\\\u00e9", `\ `, strings.Repeat("ab ", 9000)} {
		patternOf(t, says, says)
	}
	for between, says := range map[string]string{
		`\/`: `/`, `a\/b`: `a/b`, `\/\/`: `//`, `\\\/`: `\\/`, `\\\\\/`: `\\\\/`, `[\/]`: `[/]`, `=\/`: `=/`, `\.\/\n`: `\./\n`, "\xff\\/\xff": "\xff/\xff", `\/=`: `/=`, `\/\\`: `/\\`,
	} {
		patternOf(t, between, says)
	}
	// A slash within brackets, or behind two backslashes, ends it.
	next(t, "/[/]/", 0, true, api.Token{Kind: api.TRe, S: "[", Line: 1, End: 3})
	next(t, `/\\/a/`, 0, true, api.Token{Kind: api.TRe, S: `\\`, Line: 1, End: 4})
	next(t, `/\\\\/`, 0, true, api.Token{Kind: api.TRe, S: `\\\\`, Line: 1, End: 6})
	next(t, "////", 0, true, api.Token{Kind: api.TRe, Line: 1, End: 2})
	row(t, "/a/b/c/", true, tok{api.TRe, "a"}, tok{api.TName, "b"}, tok{api.TRe, "c"})
	row(t, "/=/=", true, tok{api.TRe, "="}, tok{api.TSign, "="})
	row(t, "/=/=", false, tok{api.TSign, "/="}, tok{api.TSign, "/="})
	row(t, "/a/", false, tok{api.TSign, "/"}, tok{api.TName, "a"}, tok{api.TSign, "/"})
	row(t, "/\"/\"", false, tok{api.TSign, "/"}, tok{api.TStr, "/"})
}

// P12.2: each byte within a pattern, and behind a backslash.
func TestPatternsOfEachByte(t *testing.T) {
	for b := range 256 {
		one := string([]byte{byte(b)})
		switch one {
		case "\n":
			faults(t, "/\n/", 0, true, api.ErrToken, 1)
			faults(t, "/\\\n/", 0, true, api.ErrToken, 1)
			faults(t, "/\\\\\n/", 0, true, api.ErrToken, 1)
		case "/":
			patternOf(t, `\/`, "/")
			patternOf(t, `\\\/`, `\\/`)
		case `\`:
			patternOf(t, `\\`, `\\`)
		default:
			patternOf(t, one, one)
			patternOf(t, "x"+one+"y", "x"+one+"y")
			patternOf(t, `\`+one, `\`+one)
			patternOf(t, `\\`+one, `\\`+one)
		}
	}
}

// P12.2: a pattern that does not end in its line is none.
func TestPatternsWithoutEnd(t *testing.T) {
	for _, text := range []string{"/", "/a", "/=", "/a\n", "/\n/", "/a\nb/", `/\`, `/a\`, `/\/`, `/a\/`, `/\\`, `/\\\`, `/\\\/`, "/\\\n/", "/a\\\nb/", "/\\/\n/", "/[", "/\xff", "/\"", "/" + strings.Repeat("a", mostSource-1)} {
		faults(t, text, 0, true, api.ErrToken, 1)
		faults(t, "\n \\\n"+text[:min(len(text), 9)]+"\n/", 1, true, api.ErrToken, 3)
	}
}
