package show

import (
	"strings"

	"winnower/api"
)

// text is what was told so far: no more than a source may have.
type text struct {
	out  strings.Builder
	long bool // it would have more
}

// put tells some more, as far as it may go.
func (t *text) put(more ...string) {
	for _, s := range more {
		if t.long || len(s) > api.MaxSource-t.out.Len() {
			t.long = true
			return
		}
		t.out.WriteString(s)
	}
}

// bytes tells what becomes of each byte of s.
func (t *text) bytes(s string, turned func(b byte) string) {
	for i := 0; i < len(s) && !t.long; i++ {
		t.put(turned(s[i]))
	}
}

// row tells so many things, with commas between.
func (t *text) row(n int, tell func(at int)) {
	for at := 0; at < n && !t.long; at++ {
		if at > 0 {
			t.put(", ")
		}
		tell(at)
	}
}

// whole tells the text, unless it would be too long.
func (t *text) whole() (string, api.Errno) {
	if t.long {
		return "", api.ErrLong
	}
	return t.out.String(), api.OK
}
