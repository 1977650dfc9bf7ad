package cells

import (
	"math/rand"
	"regexp"
	"strconv"
	"strings"

	"winnower/api"
	"winnower/printf"
)

// What the tests hold the package against: the words of chapters 2, 4 and 8, by
// the library's patterns and numbers and by whole numbers. A number's own text
// is left to printf, whose tests ask for it; here tables ask for it, too.

func seeded() *rand.Rand {
	return rand.New(rand.NewSource(8))
}

var (
	numeralAhead = regexp.MustCompile(`^[ \t\n\v\f\r]*([-+]?(?:[0-9]+\.?[0-9]*|\.[0-9]+)(?:[eE][-+]?[0-9]+)?)`)
	onlyNumeral  = regexp.MustCompile(numeralAhead.String() + `[ \t\n\v\f\r]*$`)
)

// modelSaid tells the number that a text begins with.
func modelSaid(s string) uint64 {
	found := numeralAhead.FindStringSubmatch(s)
	if found == nil {
		return 0
	}
	// What is too great is told as infinite, beside an error.
	f, _ := strconv.ParseFloat(found[1], 64)
	return bitsOf(f)
}

// modelForm tells bits in their one form, without a float.
func modelForm(bits uint64) uint64 {
	if bits&^signBit > infinite {
		return noNumber
	}
	return bits
}

func modelRight(c api.Cell) bool {
	switch c.Kind {
	case api.Uninit:
		return c == api.Cell{}
	case api.Num:
		return c == numOf(modelForm(c.N))
	case api.Str:
		return c == str(c.S)
	case api.StrNum:
		return onlyNumeral.MatchString(c.S) && c.N == modelSaid(c.S)
	}
	return false
}

func modelBits(c api.Cell) uint64 {
	switch c.Kind {
	case api.Uninit:
		return 0
	case api.Str:
		return modelSaid(c.S)
	}
	return modelForm(c.N)
}

func modelTrue(c api.Cell) bool {
	switch c.Kind {
	case api.Uninit:
		return false
	case api.Str:
		return len(c.S) > 0
	}
	return modelBits(c)&^signBit != 0
}

func modelText(c api.Cell, convfmt string) (string, api.Errno) {
	switch c.Kind {
	case api.Uninit:
		return "", api.OK
	case api.Num:
		return printf.Number(c.N, convfmt)
	case api.Str, api.StrNum:
		return c.S, api.OK
	}
	return "", api.OK
}

// modelRank tells a number's place among all: the sizes' bits lie as the sizes
// do.
func modelRank(bits uint64) int64 {
	switch {
	case bits == noNumber:
		return -infinite - 1
	case bits&signBit != 0:
		return -int64(bits &^ signBit)
	}
	return int64(bits)
}

func modelBytes(a, b string) int {
	for i := 0; i < len(a) && i < len(b); i++ {
		if a[i] != b[i] {
			return modelOrder(int64(a[i]), int64(b[i]))
		}
	}
	return modelOrder(int64(len(a)), int64(len(b)))
}

func modelOrder(a, b int64) int {
	switch {
	case a < b:
		return -1
	case a > b:
		return 1
	}
	return 0
}

func modelByNumber(c api.Cell) bool {
	return c.Kind == api.Num || c.Kind == api.StrNum || c.Kind == api.Uninit
}

func modelCompare(a, b api.Cell, convfmt string) (int, api.Errno) {
	if modelByNumber(a) && modelByNumber(b) {
		return modelOrder(modelRank(modelBits(a)), modelRank(modelBits(b))), api.OK
	}
	x, err := modelText(a, convfmt)
	if err != api.OK {
		return 0, err
	}
	y, err := modelText(b, convfmt)
	if err != api.OK {
		return 0, err
	}
	return modelBytes(x, y), api.OK
}

// someCells tells cells of all kinds, right ones and others.
func someCells() []api.Cell {
	var all []api.Cell
	for _, kind := range []api.CellKind{api.Uninit, api.Num, api.Str, api.StrNum, 4, 5, 127, 128, 255} {
		for _, n := range []uint64{0, signBit, least, signBit | least, bitsOf(1), bitsOf(0.1), bitsOf(10), bitsOf(-2.5), bitsOf(5000.5), bitsOf(1e16), greatest, infinite, signBit | infinite, noNumber, infinite | 1, signBit | noNumber, 1<<64 - 1} {
			for _, s := range []string{"", "0", "-0", "1", " 1\n", "0.1", "10", "1e400", "-2.5x", "a", "nan", "inf", "\x00", "\xff"} {
				all = append(all, api.Cell{Kind: kind, N: n, S: s})
			}
		}
	}
	return all
}

// wildTexts tells long texts of the bytes that matter to numerals.
func wildTexts(n int) []string {
	r := seeded()
	const bytes = "0000112345678999..++--eeEE  \t\n\v\f\ra\x00\xffx"
	var all []string
	for range n {
		var s strings.Builder
		for range r.Intn(12) {
			s.WriteByte(bytes[r.Intn(len(bytes))])
		}
		all = append(all, s.String())
	}
	return all
}
