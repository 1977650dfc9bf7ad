package lex

import (
	"strings"

	"winnower/api"
)

// quoted tells the token from at on that ends as it begins, and of which says
// tells what it says.
func quoted(text string, at int, kind api.TokKind, says func(between string) string) (api.TokKind, string, int) {
	end, ok := closing(text, at)
	if !ok {
		return none, "", at
	}
	return kind, says(text[at+1 : end]), end + 1
}

// closing tells where the byte that stands at a place stands next, but behind a
// backslash, and whether it does so in the same line. Of the digits of a mark the
// first one alone is passed by here: no digit is a backslash, nor ends anything.
func closing(text string, at int) (int, bool) {
	quote := rune(text[at])
	marked := false
	end := run(text, at+1, func(r rune) bool {
		goesOn := r != '\n' && (marked || r != quote)
		marked = !marked && r == '\\'
		return goesOn
	})
	return end, end < len(text) && text[end] != '\n'
}

// patternSays tells what a pattern says. Each slash in it is a mark's second
// byte, or it would end there.
func patternSays(between string) string {
	return strings.ReplaceAll(between, `\/`, "/")
}

// textSays tells what a text says.
func textSays(between string) string {
	var says strings.Builder
	for {
		plain, behind, found := strings.Cut(between, `\`)
		says.WriteString(plain)
		if !found {
			return says.String()
		}
		marked, end := mark(behind)
		says.WriteString(marked)
		between = behind[end:]
	}
}

// mark tells what a mark says, by what stands behind its backslash, and where it
// ends there.
func mark(behind string) (string, int) {
	end := run(behind[:min(3, len(behind))], 0, func(r rune) bool { return '0' <= r && r <= '7' })
	if end > 0 {
		return octal(behind[:end]), end
	}
	switch behind[0] {
	case '"', '\\', '/':
		return behind[:1], 1
	case 'a':
		return "\a", 1
	case 'b':
		return "\b", 1
	case 'f':
		return "\f", 1
	case 'n':
		return "\n", 1
	case 'r':
		return "\r", 1
	case 't':
		return "\t", 1
	case 'v':
		return "\v", 1
	}
	return `\` + behind[:1], 1
}

// octal tells the byte of a number.
func octal(digits string) string {
	var number byte
	for _, r := range digits {
		number = number*8 + byte(r-'0')
	}
	return string([]byte{number})
}
