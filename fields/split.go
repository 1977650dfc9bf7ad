package fields

import (
	"strings"

	"winnower/api"
	"winnower/match"
	"winnower/octets"
	"winnower/shape"
)

// parter tells the next place of a text, from one on, at which something parts
// fields, how many bytes that has, and whether there is one.
type parter func(from int) (at, n int, found bool)

// Split tells the fields of a text.
func Split(s, fs string, lines bool) ([]string, api.Errno) {
	parts, err := split(s, fs, lines)
	for i, part := range parts {
		parts[i] = strings.Clone(part)
	}
	return parts, err
}

// split tells the fields of a text, as parts of its memory.
func split(s, fs string, lines bool) ([]string, api.Errno) {
	if fs == " " {
		// Nothing is parted by blanks at the ends.
		s = trimmed(s)
	}
	next, err := parterOf(s, fs, lines)
	if err != api.OK || s == "" {
		return nil, err
	}
	return between(s, next)
}

// between tells what of a text stands between all that parts its fields.
func between(s string, next parter) ([]string, api.Errno) {
	var parts []string
	from := 0
	for len(parts) < api.MaxFields {
		at, n, found := next(from)
		if !found {
			return append(parts, s[from:]), api.OK
		}
		parts = append(parts, s[from:at])
		from = at + n
	}
	return nil, api.ErrFull
}

// parterOf tells what parts the fields of a text by fs. By one blank the text
// has none at its ends.
func parterOf(s, fs string, lines bool) (parter, api.Errno) {
	switch {
	case fs == "":
		return func(from int) (int, int, bool) {
			return from + 1, 0, from+1 < len(s)
		}, api.OK
	case fs == " ":
		return func(from int) (int, int, bool) {
			at := seek(s, from, blank)
			end := seek(s, at, noBlank)
			return at, end - at, at < len(s)
		}, api.OK
	case len(fs) == 1:
		parts := func(b byte) bool { return b == fs[0] || lines && b == '\n' }
		return func(from int) (int, int, bool) {
			at := seek(s, from, parts)
			return at, 1, at < len(s)
		}, api.OK
	}
	m, err := matcherOf(fs, lines)
	if err != api.OK {
		return nil, err
	}
	return func(from int) (int, int, bool) { return findBytes(m, s, from) }, api.OK
}

// findBytes finds a pattern with one byte at least: a place at which it takes
// none is gone past.
func findBytes(m *match.Matcher, s string, from int) (at, n int, found bool) {
	for {
		at, n, found = m.Find(s, from)
		if !found || n > 0 {
			return at, n, found
		}
		from = at + 1
	}
}

// matcherOf tells a matcher of what parts fields by a pattern.
func matcherOf(fs string, lines bool) (*match.Matcher, api.Errno) {
	m, err := matcher(fs)
	// What is no pattern may be one between parentheses: a)|(b.
	if err == api.OK && lines {
		return matcher("(" + fs + ")|(\n)")
	}
	return m, err
}

func matcher(pattern string) (*match.Matcher, api.Errno) {
	tree, err := shape.Parse(pattern)
	if err != api.OK {
		return nil, err
	}
	return match.New(tree)
}

// seek tells the first place of a text, from one on, whose byte is wanted, or
// its end.
func seek(s string, from int, wanted func(b byte) bool) int {
	for from < len(s) && !wanted(s[from]) {
		from++
	}
	return from
}

func blank(b byte) bool {
	return octets.Blank(b) || b == '\n'
}

func noBlank(b byte) bool {
	return !blank(b)
}

func trimmed(s string) string {
	to := len(s)
	for to > 0 && blank(s[to-1]) {
		to--
	}
	return s[seek(s[:to], 0, noBlank):to]
}
