package printf

import (
	"math"
	"strings"

	"winnower/api"
	"winnower/octets"
)

// letters are those that a part may end with.
const letters = "cdiouxXeEfFgGs"

// tooWide stands for each width and precision that is above the limit.
const tooWide = api.MaxWidth + 1

// part is what a format asks for one argument.
type part struct {
	left, plus, blank, alternate, noughts bool

	width     int
	precision int // below 0: none
	letter    byte
}

// rest is what is left of a format and of its arguments.
type rest struct {
	format string
	args   []api.Cell
}

// told takes what the format goes on with, bytes or a part, and tells its text.
func (r *rest) told(convfmt string) (string, api.Errno) {
	switch {
	case r.takes("%%"):
		return "%", api.OK
	case !r.takes("%"):
		return r.bytes(), api.OK
	}
	p, ok := r.part()
	if !ok {
		return "", api.ErrFormat
	}
	return p.text(r.next(), convfmt)
}

// takes takes a word, if the format goes on with it.
func (r *rest) takes(word string) bool {
	after, ok := strings.CutPrefix(r.format, word)
	r.format = after
	return ok
}

// bytes takes all up to the next part.
func (r *rest) bytes() string {
	end := strings.IndexByte(r.format, '%')
	if end < 0 {
		end = len(r.format)
	}
	text := r.format[:end]
	r.format = r.format[end:]
	return text
}

// next takes an argument.
func (r *rest) next() api.Cell {
	if len(r.args) == 0 {
		return api.Cell{}
	}
	c := r.args[0]
	r.args = r.args[1:]
	return c
}

// part takes a part, behind its %, and says whether it may be.
func (r *rest) part() (part, bool) {
	p := part{precision: -1}
	for r.format != "" && p.flagged(r.format[0]) {
		r.format = r.format[1:]
	}
	p.width = r.count()
	if p.width < 0 {
		p.left, p.width = true, -p.width
	}
	if r.takes(".") {
		p.precision = r.count()
	}
	if r.format == "" {
		return part{}, false
	}
	p.letter = r.format[0]
	r.format = r.format[1:]
	known := strings.IndexByte(letters, p.letter) >= 0
	return p, known && p.width < tooWide && p.precision < tooWide
}

// flagged sets a flag, if b is one.
func (p *part) flagged(b byte) bool {
	switch b {
	case '-':
		p.left = true
	case '+':
		p.plus = true
	case ' ':
		p.blank = true
	case '#':
		p.alternate = true
	case '0':
		p.noughts = true
	default:
		return false
	}
	return true
}

// count takes a star, or digits: as many as there are, for they may have any
// length and say too much for an int. Of none it tells 0.
func (r *rest) count() int {
	if r.takes("*") {
		return starred(r.next())
	}
	n := 0
	for r.format != "" && octets.Digit(r.format[0]) {
		n = min(10*n+int(r.format[0]-'0'), tooWide)
		r.format = r.format[1:]
	}
	return n
}

// starred tells what an argument says for a star.
func starred(c api.Cell) int {
	f := math.Float64frombits(numberOf(c))
	if math.IsNaN(f) {
		return 0
	}
	return int(max(-tooWide, min(f, tooWide)))
}
