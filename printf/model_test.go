package printf

import (
	"fmt"
	"math"
	"math/big"
	"math/rand"
	"regexp"
	"strconv"
	"strings"

	"winnower/api"
	"winnower/digits"
	"winnower/numbers"
)

// What the tests hold the package against: the chapter's words, by the
// library's fmt and by whole numbers without an end.

const (
	// The chapter's limits, written out.
	maxWidth = 4096
	maxText  = 1048576

	infinite = 0x7ff << 52
)

// partForm is what a part may look like, its counts apart.
var partForm = regexp.MustCompile(`^%([-+ #0]*)(\*|[0-9]*)(\.(?:\*|[0-9]*))?([cdiouxXeEfFgGs])`)

// modelPart is a part whose counts are known.
type modelPart struct {
	flags     string
	width     int
	precise   bool
	precision int
	letter    string
}

func (p modelPart) has(flag string) bool {
	return strings.Contains(p.flags, flag)
}

// modelCount tells what digits, or a star's argument, say; no more than one
// above the limit.
func modelCount(word string, next func() api.Cell) int {
	switch word {
	case "":
		return 0
	case "*":
		f := math.Float64frombits(modelNumber(next()))
		switch {
		case math.IsNaN(f):
			return 0
		case f > maxWidth+1:
			return maxWidth + 1
		case f < -maxWidth-1:
			return -maxWidth - 1
		}
		return int(math.Trunc(f))
	}
	n, ok := new(big.Int).SetString(word, 10)
	if !ok {
		panic(word)
	}
	if n.Cmp(big.NewInt(maxWidth)) > 0 {
		return maxWidth + 1
	}
	return int(n.Int64())
}

func modelNumber(c api.Cell) uint64 {
	switch c.Kind {
	case api.Num, api.StrNum:
		return c.N
	case api.Str:
		bits, _ := numbers.Prefix(c.S)
		return bits
	}
	return 0
}

func modelText(c api.Cell, convfmt string) (string, api.Errno) {
	switch c.Kind {
	case api.Str, api.StrNum:
		return c.S, api.OK
	case api.Num:
		return modelOfNumber(c.N, convfmt)
	}
	return "", api.OK
}

func modelOfNumber(bits uint64, convfmt string) (string, api.Errno) {
	f := math.Float64frombits(bits)
	if f == math.Trunc(f) && math.Abs(f) < 1e16 {
		return strconv.FormatFloat(f+0, 'f', 0, 64), api.OK
	}
	return modelFormat(convfmt, []api.Cell{{Kind: api.Num, N: bits}}, "%.6g")
}

func modelFormat(format string, args []api.Cell, convfmt string) (string, api.Errno) {
	var text []byte
	next := func() api.Cell {
		if len(args) == 0 {
			return api.Cell{}
		}
		c := args[0]
		args = args[1:]
		return c
	}
	for at := 0; at < len(format); {
		told, n := format[at:at+1], 1
		if told == "%" {
			var err api.Errno
			if told, n, err = modelTold(format[at:], next, convfmt); err != api.OK {
				return "", err
			}
		}
		if text = append(text, told...); len(text) > maxText {
			return "", api.ErrLong
		}
		at += n
	}
	return string(text), api.OK
}

// modelTold tells what the part at the begin of format tells, and its length.
func modelTold(format string, next func() api.Cell, convfmt string) (string, int, api.Errno) {
	if strings.HasPrefix(format, "%%") {
		return "%", 2, api.OK
	}
	m := partForm.FindStringSubmatch(format)
	if m == nil {
		return "", 0, api.ErrFormat
	}
	p := modelPart{flags: m[1], letter: m[4]}
	if p.width = modelCount(m[2], next); p.width < 0 {
		p.flags += "-"
		p.width = -p.width
	}
	if m[3] != "" {
		p.precision = modelCount(m[3][1:], next)
		p.precise = p.precision >= 0
	}
	if p.width > maxWidth || p.precise && p.precision > maxWidth {
		return "", 0, api.ErrFormat
	}
	text, err := p.tells(next(), convfmt)
	return text, len(m[0]), err
}

func (p modelPart) tells(c api.Cell, convfmt string) (string, api.Errno) {
	switch p.letter {
	case "s":
		s, err := modelText(c, convfmt)
		if p.precise && p.precision < len(s) {
			s = s[:p.precision]
		}
		return p.pads("", s, false), err
	case "c":
		return p.pads("", modelByte(c), false), api.OK
	}
	bits := modelNumber(c)
	f := math.Float64frombits(bits)
	switch {
	case math.IsNaN(f):
		return p.pads("", "nan", false), api.OK
	case math.IsInf(f, 0):
		return p.pads("", strings.TrimPrefix(strings.ToLower(strconv.FormatFloat(f, 'f', 0, 64)), "+"), false), api.OK
	}
	if strings.Contains("diouxX", p.letter) {
		head, body := p.wholeOf(f)
		return p.pads(head, body, !p.precise), api.OK
	}
	head, body := p.pointedOf(bits)
	return p.pads(head, body, true), api.OK
}

func modelByte(c api.Cell) string {
	switch c.Kind {
	case api.Num, api.StrNum:
		n := new(big.Int)
		if f := math.Float64frombits(c.N); !math.IsNaN(f) && !math.IsInf(f, 0) {
			big.NewFloat(f).Int(n)
		}
		return string([]byte{byte(n.Mod(n, big.NewInt(256)).Int64())})
	case api.Str:
		if c.S != "" {
			return c.S[:1]
		}
	}
	return ""
}

func (p modelPart) signOf(below bool) string {
	for _, x := range []struct {
		holds bool
		sign  string
	}{{below, "-"}, {p.has("+"), "+"}, {p.has(" "), " "}} {
		if x.holds {
			return x.sign
		}
	}
	return ""
}

func (p modelPart) wholeOf(f float64) (head, body string) {
	n, _ := big.NewFloat(f).Int(nil)
	base := map[string]int{"o": 8, "x": 16, "X": 16}[p.letter]
	if base == 0 {
		base = 10
	}
	if p.letter == "d" || p.letter == "i" {
		head = p.signOf(n.Sign() < 0)
		n.Abs(n)
	} else {
		n.Mod(n, new(big.Int).Lsh(big.NewInt(1), 64))
	}
	least := 1
	if p.precise {
		least = p.precision
	}
	if n.Sign() != 0 || least > 0 {
		body = n.Text(base)
	}
	for len(body) < least {
		body = "0" + body
	}
	switch {
	case !p.has("#"):
	case base == 8 && (body == "" || body[0] != '0'):
		body = "0" + body
	case base == 16 && n.Sign() != 0:
		head = "0x"
	}
	if p.letter == "X" {
		return strings.ToUpper(head), strings.ToUpper(body)
	}
	return head, body
}

func (p modelPart) pointedOf(bits uint64) (head, body string) {
	size := math.Abs(math.Float64frombits(bits))
	places := 6
	if p.precise {
		places = p.precision
	}
	switch p.letter {
	case "e", "E":
		body = fmt.Sprintf("%.*e", places, size)
		if p.has("#") && places == 0 {
			body = strings.Replace(body, "e", ".e", 1)
		}
	case "f", "F":
		body = fmt.Sprintf("%.*f", places, size)
		if p.has("#") && places == 0 {
			body += "."
		}
	default:
		body = digits.Short(math.Float64bits(size), places, p.has("#"))
	}
	if p.letter == "E" || p.letter == "G" {
		body = strings.ToUpper(body)
	}
	return p.signOf(bits>>63 == 1), body
}

// pads pads to the width; with noughts only where they may be.
func (p modelPart) pads(head, body string, mayNoughts bool) string {
	lacks := strings.Repeat(" ", max(0, p.width-len(head)-len(body)))
	if p.has("-") {
		return head + body + lacks
	}
	if p.has("0") && mayNoughts {
		return head + strings.ReplaceAll(lacks, " ", "0") + body
	}
	return lacks + head + body
}

// Cells that tests ask.

func num(f float64) api.Cell {
	return api.Cell{Kind: api.Num, N: math.Float64bits(f)}
}

func str(s string) api.Cell {
	return api.Cell{Kind: api.Str, S: s}
}

// strNum is what came from outside and looks like a number.
func strNum(s string) api.Cell {
	bits, _ := numbers.Prefix(s)
	return api.Cell{Kind: api.StrNum, N: bits, S: s}
}

var (
	none        = api.Cell{}
	inf         = num(math.Inf(1))
	minusInf    = num(math.Inf(-1))
	nan         = api.Cell{Kind: api.Num, N: api.NaN}
	minusNought = num(math.Copysign(0, -1))
)

// notNumbers are some of what is no number, in other forms than the one.
func notNumbers() []api.Cell {
	var all []api.Cell
	for _, bits := range []uint64{infinite | 1, infinite | 1<<51, infinite | (1<<52 - 1)} {
		all = append(all, api.Cell{Kind: api.Num, N: bits}, api.Cell{Kind: api.Num, N: bits | signBit})
	}
	return all
}

// someCells are cells of all kinds, at the edges of what letters tell of them.
func someCells() []api.Cell {
	all := []api.Cell{
		none, nan, inf, minusInf, minusNought,
		str(""), str("x"), str("%d"), str("-12.5e1x"), str(" 77\n"), str("inf"), str("1e400"), str("-1e400"), str("-1e-400"), str("\x00\xff%"), str("hello, world"), str("é"),
		strNum("12"), strNum(" -0.5 "), strNum("0"), strNum("1e3"), strNum("0001"), strNum("+7"),
		{Kind: api.StrNum, N: math.Float64bits(7), S: "seven"}, {Kind: api.StrNum, N: api.NaN, S: ""}, {Kind: api.StrNum, N: infinite, S: "1e999"},
		{Kind: api.Uninit, N: math.Float64bits(5), S: "five"}, {Kind: api.Num, N: math.Float64bits(6.5), S: "six"}, {Kind: api.Str, N: math.Float64bits(5), S: "8 eight"},
	}
	for _, f := range []float64{
		0, 1, 7, 8, 9, 10, 42, 65, 100, 255, 256, 999999, 1e6, 123456789, 1e15, 9999999999999998, 1e16, 1e17, 1e22, 1e300, math.MaxFloat64,
		0.1, 0.5, 0.999, 1.5, 2.5, 9.5, 9.96, 99.95, 999999.5, 0.0001, 0.00001, 1e-10, 5e-324, math.Pi, 1.0 / 3,
		1<<31 - 1, 1 << 31, 1<<32 + 1, 1 << 53, 1<<63 - 1024, 1 << 63, 1<<63 + 2048, 1<<64 - 2048, 1 << 64, 1<<64 + 4096, 1 << 65, 1<<70 + 1<<20,
	} {
		all = append(all, num(f), num(-f))
	}
	return append(all, notNumbers()...)
}

// someCell is a cell of any kind.
func someCell(r *rand.Rand) api.Cell {
	switch r.Intn(8) {
	case 0:
		return none
	case 1:
		return num(float64(r.Intn(40) - 20))
	case 2:
		return num(math.Ldexp(2*r.Float64()-1, r.Intn(150)-40))
	case 3:
		return api.Cell{Kind: api.Num, N: r.Uint64()}
	case 4:
		return strNum(strconv.Itoa(r.Intn(2000)-1000) + "." + strconv.Itoa(r.Intn(100)))
	case 5:
		return str(strings.Repeat(string(rune('a'+r.Intn(26))), r.Intn(10)))
	}
	cells := someCells()
	return cells[r.Intn(len(cells))]
}
