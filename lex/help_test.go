package lex

import (
	"math"
	"math/rand"
	"strconv"
	"testing"
	"unsafe"

	"winnower/api"
)

// mostSource is how many bytes a source may have, as the document has it.
const mostSource = 65536

var both = []bool{false, true}

func seeded() *rand.Rand {
	return rand.New(rand.NewSource(12))
}

// outside are places that a text of so many bytes hasn't.
func outside(length int) []int {
	return []int{math.MinInt, math.MinInt + 1, math.MinInt32, -mostSource, -2, -1, length + 1, length + 2, math.MaxInt32, math.MaxInt - 1, math.MaxInt}
}

// brief keeps what a failing test tells short.
func brief(s string) string {
	if len(s) < 90 {
		return strconv.Quote(s)
	}
	return strconv.Quote(s[:40]) + ".." + strconv.Quote(s[len(s)-40:]) + " of " + strconv.Itoa(len(s)) + " bytes"
}

// next says what Next tells: of a token its kind, what it says, its line, its
// place, and the place behind it.
func next(t *testing.T, text string, at int, re bool, want api.Token) {
	t.Helper()
	if token, fault := Next(text, at, re); token != want || fault != (api.Fault{}) {
		t.Errorf("Next(%s, %d, %v) = {%d %s %d %d %d}, %+v; want {%d %s %d %d %d}", brief(text), at, re,
			token.Kind, brief(token.S), token.Line, token.At, token.End, fault, want.Kind, brief(want.S), want.Line, want.At, want.End)
	}
}

func faults(t *testing.T, text string, at int, re bool, err api.Errno, line int) {
	t.Helper()
	if token, fault := Next(text, at, re); token != (api.Token{}) || fault != (api.Fault{Err: err, Line: line}) {
		t.Errorf("Next(%s, %d, %v) = %+v, %+v; want error %d in line %d", brief(text), at, re, token, fault, err, line)
	}
}

// whole says that all of a text is one token, and what it says.
func whole(t *testing.T, text string, re bool, kind api.TokKind, says string) {
	t.Helper()
	next(t, text, 0, re, api.Token{Kind: kind, S: says, Line: 1, End: len(text)})
}

// begins says which token a text begins with, whose text it says itself.
func begins(t *testing.T, text string, kind api.TokKind, says string) {
	t.Helper()
	for _, re := range both {
		next(t, text, 0, re, api.Token{Kind: kind, S: says, Line: 1, End: len(says)})
	}
}

// noToken says that a text begins with none.
func noToken(t *testing.T, text string) {
	t.Helper()
	for _, re := range both {
		faults(t, text, 0, re, api.ErrToken, 1)
	}
}

// tok is a token without its places.
type tok struct {
	kind api.TokKind
	says string
}

// row says which tokens stand in a text, one behind the other, up to its end.
func row(t *testing.T, text string, re bool, want ...tok) {
	t.Helper()
	at := 0
	for i, w := range append(want, tok{api.TEnd, ""}) {
		token, fault := Next(text, at, re)
		if token.Kind != w.kind || token.S != w.says || fault != (api.Fault{}) {
			t.Errorf("token %d of %s, with patterns %v: %+v, %+v; want %+v", i, brief(text), re, token, fault, w)
			return
		}
		at = token.End
	}
}

// rowBoth says which they are with patterns and without.
func rowBoth(t *testing.T, text string, want ...tok) {
	t.Helper()
	for _, re := range both {
		row(t, text, re, want...)
	}
}

// texts tells all texts of some bytes, up to so many of them.
func texts(bytes string, most int) []string {
	every, last := []string{""}, []string{""}
	for range most {
		var longer []string
		for _, s := range last {
			for i := range len(bytes) {
				longer = append(longer, s+bytes[i:i+1])
			}
		}
		last = longer
		every = append(every, last...)
	}
	return every
}

// within says whether a text lies in the memory of another one.
func within(part, whole string) bool {
	if part == "" || whole == "" {
		return false
	}
	at, from := uintptr(unsafe.Pointer(unsafe.StringData(part))), uintptr(unsafe.Pointer(unsafe.StringData(whole)))
	return at >= from && at < from+uintptr(len(whole))
}

// The words and the signs, as the chapter lists them.

func words() []string {
	return []string{"BEGIN", "END", "function", "if", "else", "while", "for", "do", "break", "continue", "next", "exit", "return", "delete", "in", "print", "printf", "getline", "length", "substr", "index", "split", "sub", "gsub", "match", "sprintf", "tolower", "toupper", "int", "srand", "rand", "close", "system"}
}

func signs() []string {
	return []string{"&&", "||", "++", "--", "+=", "-=", "*=", "/=", "%=", "^=", "==", "<=", ">=", "!=", "!~", ">>", "{", "}", "(", ")", "[", "]", ";", ",", "+", "-", "*", "/", "%", "^", "!", ">", "<", "|", "?", ":", "~", "$", "="}
}
