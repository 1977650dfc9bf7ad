package printf

import (
	"math"
	"strconv"
	"strings"

	"winnower/api"
	"winnower/digits"
	"winnower/numbers"
	"winnower/octets"
)

const signBit = 1 << 63

// usualPlaces are those of a number with a point, if a part has no precision.
const usualPlaces = 6

// numberOf tells the bits of a cell's number.
func numberOf(c api.Cell) uint64 {
	switch c.Kind {
	case api.Uninit:
		return 0
	case api.Str:
		bits, _ := numbers.Prefix(c.S)
		return bits
	}
	return c.N
}

// textOf tells a cell's text.
func textOf(c api.Cell, convfmt string) (string, api.Errno) {
	switch c.Kind {
	case api.Num:
		return Number(c.N, convfmt)
	case api.Str, api.StrNum:
		return c.S, api.OK
	}
	return "", api.OK
}

// text tells a cell as the part asks for it.
func (p part) text(c api.Cell, convfmt string) (string, api.Errno) {
	switch p.letter {
	case 's':
		s, err := textOf(c, convfmt)
		return p.blanked(s[:min(len(s), p.precisionOr(len(s)))]), err
	case 'c':
		return p.blanked(byteOf(c)), api.OK
	}
	return p.numeral(numberOf(c)), api.OK
}

// byteOf tells the byte that a cell stands for: by its number, or the first one
// of its text.
func byteOf(c api.Cell) string {
	switch c.Kind {
	case api.Num, api.StrNum:
		return string([]byte{byte(wrapped(c.N))})
	case api.Str:
		return c.S[:min(len(c.S), 1)]
	}
	return ""
}

// numeral tells a number by a letter that asks for one.
func (p part) numeral(bits uint64) string {
	if !finite(bits) {
		return p.blanked(digits.Fixed(bits, 0))
	}
	switch p.letter {
	case 'e', 'E', 'f', 'F', 'g', 'G':
		return p.padded(p.pointed(bits))
	}
	// A precision says already how many noughts there are.
	p.noughts = p.noughts && p.precision < 0
	return p.padded(p.whole(bits))
}

// whole tells a number that is cut off: what stands ahead of all noughts, and
// its digits.
func (p part) whole(bits uint64) (head, body string) {
	turn := unturned
	switch p.letter {
	case 'o':
		body = p.atLeast(strconv.FormatUint(wrapped(bits), 8))
		if p.alternate && !strings.HasPrefix(body, "0") {
			body = "0" + body
		}
		return "", body
	case 'u':
		return "", p.atLeast(strconv.FormatUint(wrapped(bits), 10))
	case 'X':
		turn = octets.Upper
		fallthrough
	case 'x':
		n := wrapped(bits)
		if p.alternate && n != 0 {
			head = "0x"
		}
		return turn(head), turn(p.atLeast(strconv.FormatUint(n, 16)))
	}
	f := math.Trunc(math.Float64frombits(bits))
	return p.sign(f < 0), p.atLeast(digits.Fixed(math.Float64bits(math.Abs(f)), 0))
}

// pointed tells a number with a point: its sign, and its digits with the power
// of ten, if there is one.
func (p part) pointed(bits uint64) (head, body string) {
	size, places := bits&^signBit, p.precisionOr(usualPlaces)
	turn := unturned
	switch p.letter {
	case 'E':
		turn = octets.Upper
		fallthrough
	case 'e':
		body = p.withPoint(digits.Exp(size, places))
	case 'G':
		turn = octets.Upper
		fallthrough
	case 'g':
		body = digits.Short(size, places, p.alternate)
	case 'f', 'F':
		body = p.withPoint(digits.Fixed(size, places))
	}
	return p.sign(bits != size), turn(body)
}

// unturned is what a small letter does to a text, where its capital one turns it.
func unturned(s string) string {
	return s
}

func finite(bits uint64) bool {
	f := math.Float64frombits(bits)
	return !math.IsNaN(f) && !math.IsInf(f, 0)
}

// wrapped tells a number, cut off, modulo 2^64; 0, if there are no digits of it.
func wrapped(bits uint64) uint64 {
	if !finite(bits) {
		return 0
	}
	f := math.Float64frombits(bits)
	// Turned into a whole number, the rest is cut off.
	n := uint64(math.Mod(math.Abs(f), 1<<64))
	if f < 0 {
		return -n
	}
	return n
}

// sign tells a number's sign; the flags' one, if it is not below 0.
func (p part) sign(below bool) string {
	switch {
	case below:
		return "-"
	case p.plus:
		return "+"
	case p.blank:
		return " "
	}
	return ""
}

func (p part) precisionOr(other int) int {
	if p.precision < 0 {
		return other
	}
	return p.precision
}

// atLeast tells a whole number's digits with as many as the precision asks for;
// 0 has none but those.
func (p part) atLeast(text string) string {
	if text == "0" {
		text = ""
	}
	return filler("0")(text, p.precisionOr(1))
}

// withPoint puts a point behind digits that have none, if it is asked for.
func (p part) withPoint(text string) string {
	if !p.alternate || p.precision != 0 {
		return text
	}
	end := strings.IndexByte(text, 'e')
	if end < 0 {
		end = len(text)
	}
	return text[:end] + "." + text[end:]
}

// blanked pads what no noughts may be put ahead of.
func (p part) blanked(text string) string {
	p.noughts = false
	return p.padded("", text)
}

// padded tells head and body, as wide as the part asks.
func (p part) padded(head, body string) string {
	noughts, blanks := filler("0"), filler(" ")
	switch {
	case p.left:
		return head + body + blanks("", p.width-len(head)-len(body))
	case p.noughts:
		return head + noughts(body, p.width-len(head))
	}
	return blanks(head+body, p.width)
}

// filler makes what puts bytes of a kind ahead of a text, up to a length.
func filler(kind string) func(text string, length int) string {
	return func(text string, length int) string {
		return strings.Repeat(kind, max(0, length-len(text))) + text
	}
}
