package host

import (
	"strings"

	"winnower/api"
	"winnower/match"
	"winnower/shape"
)

// mostKept is how much the patterns that are kept may cost, but for the last one:
// a program may make ever new ones.
const mostKept = 1 << 20

// Match tells 1, if a pattern is found in a cell's text, else 0.
func (h *Host) Match(c, pattern api.Cell) (api.Cell, api.Errno) {
	if !h.made() {
		return api.Cell{}, api.ErrNil
	}
	texts, err := h.texts([]api.Cell{c, pattern})
	if err != api.OK {
		return api.Cell{}, err
	}
	m, err := h.matcher(texts[1])
	if err != api.OK {
		return api.Cell{}, err
	}
	return truth(m.Has(texts[0])), api.OK
}

// Sub puts repl in place of what a pattern finds in a target, the first time or
// all times. It tells how often, and the text.
func (h *Host) Sub(pattern, repl, target api.Cell, all bool) (int, string, api.Errno) {
	if !h.made() {
		return 0, "", api.ErrNil
	}
	texts, err := h.texts([]api.Cell{pattern, repl, target})
	if err != api.OK {
		return 0, "", err
	}
	m, err := h.matcher(texts[0])
	if err != api.OK {
		return 0, "", err
	}
	times, text := replace(m, texts[1], texts[2], all)
	return times, text, api.OK
}

// matcher tells the matcher of a pattern.
func (h *Host) matcher(pattern string) (*match.Matcher, api.Errno) {
	if m := h.patterns[pattern]; m != nil {
		return m, api.OK
	}
	tree, err := shape.Parse(pattern)
	if err != api.OK {
		return nil, err
	}
	m, err := match.New(tree)
	if err != api.OK {
		return nil, err
	}
	h.keep(pattern, m)
	return m, api.OK
}

func (h *Host) keep(pattern string, m *match.Matcher) {
	cost := len(pattern) + m.Size()
	if h.kept+cost > mostKept {
		clear(h.patterns)
		h.kept = 0
	}
	h.patterns[pattern] = m
	h.kept += cost
}

// replace puts repl in place of what a matcher finds in a text.
func replace(m *match.Matcher, repl, text string, all bool) (int, string) {
	var out strings.Builder
	times, from := 0, 0
	behind := -1 // where what was found ahead ends
	for from <= len(text) && (all || times == 0) {
		at, n, found := m.Find(text, from)
		if !found {
			break
		}
		out.WriteString(text[from:at])
		if n > 0 || at != behind {
			times++
			putIn(&out, repl, text[at:at+n])
			behind = at + n
		}
		from = at + n
		if n == 0 {
			out.WriteString(text[at:min(at+1, len(text))])
			from++
		}
	}
	out.WriteString(text[min(from, len(text)):])
	return times, out.String()
}

// putIn writes repl, as it says, for what was found.
func putIn(out *strings.Builder, repl, found string) {
	for i := 0; i < len(repl); i++ {
		b := repl[i]
		if b == '&' {
			out.WriteString(found)
			continue
		}
		if b == '\\' && i+1 < len(repl) && (repl[i+1] == '&' || repl[i+1] == '\\') {
			i++
			b = repl[i]
		}
		out.WriteByte(b)
	}
}
