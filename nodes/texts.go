package nodes

import (
	"slices"

	"winnower/api"
	"winnower/lex"
)

func isName(s string) bool {
	token, _ := lex.Next(s, 0, false)
	return token.Kind == api.TName && token.S == s
}

func allNames(texts []string) bool {
	return !slices.ContainsFunc(texts, func(s string) bool { return !isName(s) })
}

// isPattern says whether a text may be a pattern's between slashes: each
// backslash takes the byte behind it, which a slash may not be.
func isPattern(s string) bool {
	taken := false
	for i := range len(s) {
		switch c := s[i]; {
		case c == '\n', taken && c == '/':
			return false
		default:
			taken = c == '\\' && !taken
		}
	}
	return !taken
}

func isEmpty(s string) bool {
	return s == ""
}

func isAny(string) bool {
	return true
}

// oneOf tells a closure that says whether a text is one of some.
func oneOf(texts ...string) func(s string) bool {
	return func(s string) bool { return slices.Contains(texts, s) }
}
