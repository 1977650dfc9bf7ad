package reader

import "strings"

// text is what is left of a stream, as far as it was read.
type text struct {
	all  string
	more func() bool // reads another piece, and says whether there was one
	read strings.Builder
}

// span is where a record stands, and where what is left behind it begins.
type span struct {
	from, to, next int
}

// add puts a piece behind all.
func (t *text) add(piece string) {
	if t.read.Len() == 0 {
		t.read.WriteString(t.all)
	}
	// No text that the builder told changes by what is written behind it, so
	// that a long record is not copied for each of its pieces.
	t.read.WriteString(piece)
	t.all = t.read.String()
}

// behind tells what stands from a place on, without the memory of what was read
// ahead of it.
func (t *text) behind(at int) string {
	if t.read.Len() == 0 {
		return t.all[at:]
	}
	return strings.Clone(t.all[at:])
}

// record finds the next record. It begins behind all, if there is none.
func (t *text) record(rs string) span {
	if rs == "" {
		return t.byEmptyLines()
	}
	return t.byByte(rs[0])
}

func (t *text) byByte(end byte) span {
	to := t.seek(0, func(s string) int { return strings.IndexByte(s, end) })
	return span{0, to, min(to+1, len(t.all))}
}

// byEmptyLines goes on, where a record ends, to the next one's first byte: bytes
// 10 that stand between may lie in pieces that are still to come.
func (t *text) byEmptyLines() span {
	from := t.seek(0, noLineEnd)
	to := t.seek(from, lineEnd)
	for t.has(to+1) && t.all[to+1] != '\n' {
		to = t.seek(to+1, lineEnd)
	}
	return span{from, to, t.seek(to, noLineEnd)}
}

// seek tells the first place, from one on, that index finds in what is there. It
// asks for more as long as there is none, and tells the end, if none comes.
func (t *text) seek(from int, index func(s string) int) int {
	for {
		if at := index(t.all[from:]); at >= 0 {
			return from + at
		}
		from = len(t.all)
		if !t.more() {
			return from
		}
	}
}

// has says whether there is a byte at a place, and asks for more until there is.
func (t *text) has(at int) bool {
	for at >= len(t.all) {
		if !t.more() {
			return false
		}
	}
	return true
}

func lineEnd(s string) int {
	return strings.IndexByte(s, '\n')
}

func noLineEnd(s string) int {
	lines := len(s) - len(strings.TrimLeft(s, "\n"))
	if lines == len(s) {
		return -1
	}
	return lines
}
