package cells

import (
	"math"
	"strconv"
	"strings"
	"testing"
	"unsafe"

	"winnower/api"
)

// What numbers' bits are made of, and the numbers at the ends.
const (
	usual = "%.6g"

	signBit  = 1 << 63
	infinite = 0x7ff << 52
	greatest = infinite - 1
	least    = 1
	// noNumber is api.NaN, written out.
	noNumber = 0x7ff8000000000001

	// maxText is the limit of chapter 4, written out.
	maxText = 1048576
)

func bitsOf(f float64) uint64 {
	return math.Float64bits(f)
}

// The cells, laid part by part: none of them is made by the package.

func num(f float64) api.Cell {
	return api.Cell{Kind: api.Num, N: bitsOf(f)}
}

func numOf(bits uint64) api.Cell {
	return api.Cell{Kind: api.Num, N: bits}
}

func str(s string) api.Cell {
	return api.Cell{Kind: api.Str, S: s}
}

func strNum(s string, f float64) api.Cell {
	return api.Cell{Kind: api.StrNum, N: bitsOf(f), S: s}
}

// brief keeps what a failing test tells short.
func brief(s string) string {
	if len(s) < 60 {
		return strconv.Quote(s)
	}
	return strconv.Quote(s[:20]) + ".." + strconv.Quote(s[len(s)-20:]) + " of " + strconv.Itoa(len(s)) + " bytes"
}

func tell(c api.Cell) string {
	return strconv.Itoa(int(c.Kind)) + ":" + strconv.FormatUint(c.N, 16) + ":" + brief(c.S)
}

// isCell says that a call has told a cell, each part of it.
func isCell(t *testing.T, call string, got, want api.Cell) {
	t.Helper()
	if got != want {
		t.Errorf("%s = %s; want %s", call, tell(got), tell(want))
	}
}

func isRight(t *testing.T, c api.Cell, want bool) {
	t.Helper()
	if Right(c) != want {
		t.Errorf("Right(%s) = %v", tell(c), !want)
	}
}

// isNumber says that a cell's number has some bits, by both calls.
func isNumber(t *testing.T, c api.Cell, want uint64) {
	t.Helper()
	if got := Bits(c); got != want {
		t.Errorf("Bits(%s) = %x; want %x", tell(c), got, want)
	}
	if got := bitsOf(Num(c)); got != want {
		t.Errorf("Num(%s) = %x; want %x", tell(c), got, want)
	}
}

func isText(t *testing.T, c api.Cell, convfmt, want string) {
	t.Helper()
	if got, err := String(c, convfmt); got != want || err != api.OK {
		t.Errorf("String(%s, %s) = %s, %d; want %s", tell(c), brief(convfmt), brief(got), err, brief(want))
	}
}

// hasNoText says that a cell's text is an error, and nothing beside it.
func hasNoText(t *testing.T, c api.Cell, convfmt string, want api.Errno) {
	t.Helper()
	if got, err := String(c, convfmt); got != "" || err != want {
		t.Errorf("String(%s, %s) = %s, %d; want error %d", tell(c), brief(convfmt), brief(got), err, want)
	}
}

func isTrue(t *testing.T, c api.Cell, want bool) {
	t.Helper()
	if True(c) != want {
		t.Errorf("True(%s) = %v", tell(c), !want)
	}
}

// compares says how two cells compare, and the other way about.
func compares(t *testing.T, a, b api.Cell, convfmt string, want int) {
	t.Helper()
	comparesSo(t, a, b, convfmt, want, api.OK)
	comparesSo(t, b, a, convfmt, -want, api.OK)
}

func comparesNot(t *testing.T, a, b api.Cell, convfmt string, want api.Errno) {
	t.Helper()
	comparesSo(t, a, b, convfmt, 0, want)
	comparesSo(t, b, a, convfmt, 0, want)
}

func comparesSo(t *testing.T, a, b api.Cell, convfmt string, want int, wantErr api.Errno) {
	t.Helper()
	if got, err := Compare(a, b, convfmt); got != want || err != wantErr {
		t.Errorf("Compare(%s, %s, %s) = %d, %d; want %d, %d", tell(a), tell(b), brief(convfmt), got, err, want, wantErr)
	}
}

// share says whether two texts have memory in common.
func share(a, b string) bool {
	if a == "" || b == "" {
		return false
	}
	beginA, beginB := uintptr(unsafe.Pointer(unsafe.StringData(a))), uintptr(unsafe.Pointer(unsafe.StringData(b)))
	return beginA < beginB+uintptr(len(b)) && beginB < beginA+uintptr(len(a))
}

// notNumbers tells bits of what is no number: of both signs each bit alone,
// each one missing, the pairs of bits that lie side by side, and many others.
func notNumbers() []uint64 {
	const fraction = 1<<52 - 1
	var all []uint64
	add := func(bits uint64) {
		all = append(all, infinite|bits, signBit|infinite|bits)
	}
	add(fraction)
	add(noNumber)
	for i := range 52 {
		add(1 << i)
		add(fraction &^ (1 << i))
		if i < 51 {
			add(3 << i)
		}
	}
	r := seeded()
	for range 2000 {
		add(r.Uint64()&fraction | 1)
	}
	return all
}

// oddNumbers tells bits of numbers of all kinds, each in its one form.
func oddNumbers() []uint64 {
	all := []uint64{noNumber}
	for _, size := range []uint64{
		0, least, 2, 1<<52 - 1, 1 << 52, 1<<52 + 1, greatest - 1, greatest, infinite,
		bitsOf(0.1), bitsOf(0.5), bitsOf(0.999999999), bitsOf(1), bitsOf(math.Nextafter(1, 2)), bitsOf(1.5), bitsOf(2), bitsOf(9), bitsOf(10), bitsOf(17), bitsOf(3.14159265),
		bitsOf(999999.5), bitsOf(1e6), bitsOf(1<<53 - 1), bitsOf(1 << 53), bitsOf(9999999999999998), bitsOf(1e16), bitsOf(1e20), bitsOf(1e300), bitsOf(1e-300),
	} {
		all = append(all, size, signBit|size)
	}
	return all
}

// oddTexts tells texts of all kinds.
func oddTexts() []string {
	all := []string{
		"", " ", "\n", "\x00", "\xff", "0", "-0", "+0", "00", " 0", "0 ", "\t0\r\n", "0.0", "-0.0", ".0", "0.", "0e5", "-0e-5", "0x", "0a", "0 0", "0\x00", "0\xff", "\x000", "\xff0",
		"1", "+1", "-1", " 1 ", "1a", "1 a", "a1", "1e", "1e+", "1e1", "1e-1", "1e 1", "1.5", "1.5.", "1..5", "1,5", "9", "10", "010", "100", "9a", "10a", "3x", "+", "-", ".", "e", "e1", "+-1", "--1", "- 1",
		"0x1", "0x10", "nan", "inf", "-inf", "+nan", "infinity", "1e400", "-1e400", "1e-400", "-1e-400", "1e308", "1_000", "１", "a", "A", "b", "ab", "aa", "abc", "abd", "a\x00", "a\xff", "a ", " a", "é",
		"%d", "%s", "%.6g", "0.1", "0.10", "0.1000000000000000055511151231257827", "9007199254740993", "9007199254740992", strings.Repeat("0", 900) + "7", "0." + strings.Repeat("0", 900) + "7e901", strings.Repeat("9", 400), strings.Repeat("x", 1000),
	}
	for b := range 256 {
		all = append(all, string([]byte{byte(b)}), string([]byte{'1', byte(b)}), string([]byte{byte(b), '1'}))
	}
	return all
}

// formats tells convfmts that may be, and others.
func formats() []string {
	return []string{
		usual, "%d", "%.3f", "%.30e", "%g", "%x", "%o", "%c", "%s", "%.2s", "%10s|", "%%", "", "abc", "\x00\xff", "<%8.3f>", "%g %g", "%d %s %c %e", "%*d", "%-*.*f|",
		"%", "%z", "%5", "%4097g", "%.4097g", "%g%", "%g %z", "%-%",
	}
}
