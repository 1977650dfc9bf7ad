package lex

import (
	"regexp"
	"slices"
	"strconv"
	"strings"
	"sync"
	"testing"

	"winnower/api"
)

// The chapter's words as patterns of the library.
type model struct {
	passed, number, name, text, pattern, mark *regexp.Regexp
	sorted                                    []string // the signs, longer ones first
}

var modelOnce = sync.OnceValue(func() *model {
	sorted := signs()
	slices.SortStableFunc(sorted, func(a, b string) int { return len(b) - len(a) })
	return &model{
		passed:  regexp.MustCompile(`^(?:[ \t\r]|#[^\n]*|\\\n)*`),
		number:  regexp.MustCompile(`^(?:[0-9]+(?:\.[0-9]*)?|\.[0-9]+)(?:[eE][+-]?[0-9]+)?`),
		name:    regexp.MustCompile(`^[A-Za-z_][A-Za-z0-9_]*`),
		text:    regexp.MustCompile(`^"(?:[^"\\\n]|\\[^\n])*"`),
		pattern: regexp.MustCompile(`^/(?:[^/\\\n]|\\[^\n])*/`),
		mark:    regexp.MustCompile(`\\(?:[0-7]{1,3}|[^\n])`),
		sorted:  sorted,
	}
})

func (m *model) says(mark string) string {
	const from, to = `"\/abfnrtv`, "\"\\/\a\b\f\n\r\t\v"
	if number, err := strconv.ParseUint(mark[1:], 8, 32); err == nil {
		return string([]byte{byte(number % 256)})
	}
	if i := strings.Index(from, mark[1:]); i >= 0 {
		return to[i : i+1]
	}
	return mark
}

// stands tells what begins with a text, and how long it is.
func (m *model) stands(rest string, re bool) (api.TokKind, string, int) {
	if rest == "" {
		return api.TEnd, "", 0
	}
	if rest[0] == '\n' {
		return api.TLine, "", 1
	}
	if s := m.number.FindString(rest); s != "" {
		return api.TNum, s, len(s)
	}
	if s := m.name.FindString(rest); s != "" {
		kind := api.TName
		if slices.Contains(words(), s) {
			kind = api.TWord
		} else if len(s) < len(rest) && rest[len(s)] == '(' {
			kind = api.TFunc
		}
		return kind, s, len(s)
	}
	if s := m.text.FindString(rest); s != "" {
		return api.TStr, m.mark.ReplaceAllStringFunc(s[1:len(s)-1], m.says), len(s)
	}
	if rest[0] == '/' && re {
		s := m.pattern.FindString(rest)
		if s == "" {
			return 0, "", 0
		}
		return api.TRe, m.mark.ReplaceAllStringFunc(s[1:len(s)-1], func(mark string) string {
			if mark == `\/` {
				return "/"
			}
			return mark
		}), len(s)
	}
	for _, sign := range m.sorted {
		if strings.HasPrefix(rest, sign) {
			return api.TSign, sign, len(sign)
		}
	}
	return 0, "", 0
}

func (m *model) next(text string, at int, re bool) (api.Token, api.Fault) {
	at += len(m.passed.FindString(text[at:]))
	line := 1
	for i := range at {
		if text[i] == '\n' {
			line++
		}
	}
	kind, says, length := m.stands(text[at:], re)
	if kind == 0 {
		return api.Token{}, api.Fault{Err: api.ErrToken, Line: line}
	}
	return api.Token{Kind: kind, S: says, Line: line, At: at, End: at + length}, api.Fault{}
}

// held says that Next tells of a place what the chapter's words do.
func held(t *testing.T, text string, at int) {
	t.Helper()
	m := modelOnce()
	for _, re := range both {
		token, fault := Next(text, at, re)
		if want, wantFault := m.next(text, at, re); token != want || fault != wantFault {
			t.Fatalf("Next(%q, %d, %v) = %+v, %+v; want %+v, %+v", text, at, re, token, fault, want, wantFault)
		}
	}
}

// P12.2: all short texts of some bytes, from their begin.
func TestShortTexts(t *testing.T) {
	for _, set := range []struct {
		bytes string
		most  int
	}{
		{"\"\\\n07a", 6}, {"\"\\189n", 6}, {"/\\\n=[\"", 6}, {"1.eE+-", 6}, {" \\\n#x\r", 6}, {"a_1( \\\n", 5}, {"&|!=<>~+", 4}, {"-+*/%^= ", 4}, {"#\t\v\f\\\n\"", 5}, {"in(BEGIND", 5}, {"\xff\xc3\xa9\"\\/", 5}, {"\x00\x80\n\"\\3", 5}, {".5(e/ \"", 5},
	} {
		for _, text := range texts(set.bytes, set.most) {
			held(t, text, 0)
		}
	}
}

// P12.2: all shorter ones, from each place.
func TestShortTextsFromEachPlace(t *testing.T) {
	for _, bytes := range []string{"\"\\\n1a/", " #\\\n(f", "1.e+=_", "/=\\\"\n "} {
		for _, text := range texts(bytes, 5) {
			for at := range len(text) + 1 {
				held(t, text, at)
			}
		}
	}
}

// P12.2: all texts of two bytes.
func TestAllPairs(t *testing.T) {
	for a := range 256 {
		for b := range 256 {
			held(t, string([]byte{byte(a), byte(b)}), 0)
		}
	}
}

// P12.2: wild texts of bytes and of parts of sources, from each place.
func TestWildTexts(t *testing.T) {
	r := seeded()
	parts := append(append(words(), signs()...), " ", "\n", "\\\n", "#", "\"", "\"", "/", "\\", "\\\"", "\\/", "\\0", "\\12", "\\377", "\\n", "\\q", "1", "2.5", ".5", "1e9", "1e", "e+", ".", "&", "f(", "x", "_1", "\r", "\t", "\v", "\x00", "\xff", "\u00e9", "@")
	for range 2000 {
		var text []byte
		for range 1 + r.Intn(40) {
			if r.Intn(8) == 0 {
				text = append(text, byte(r.Intn(256)))
			} else {
				text = append(text, parts[r.Intn(len(parts))]...)
			}
		}
		for at := range len(text) + 1 {
			held(t, string(text), at)
		}
	}
}
