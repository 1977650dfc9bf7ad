package cells

import (
	"math"
	"slices"
	"strings"
	"testing"

	"winnower/api"
)

// P8.3: Num, StrNum and Uninit are compared by their numbers.
func TestCompareNumbers(t *testing.T) {
	minus0 := math.Copysign(0, -1)
	for _, x := range []struct {
		a, b api.Cell
		want int
	}{
		{num(9), num(10), -1}, {num(1), num(1), 0}, {num(-9), num(-10), 1}, {num(-1), num(1), -1}, {num(1), num(math.Nextafter(1, 2)), -1},
		{num(0), num(minus0), 0}, {num(minus0), num(minus0), 0}, {numOf(least), num(0), 1}, {numOf(least), num(minus0), 1}, {numOf(signBit | least), num(0), -1}, {numOf(signBit | least), num(minus0), -1}, {numOf(signBit | least), numOf(least), -1},
		{numOf(greatest), numOf(infinite), -1}, {numOf(signBit | greatest), numOf(signBit | infinite), 1}, {numOf(infinite), numOf(infinite), 0}, {numOf(signBit | infinite), numOf(infinite), -1}, {numOf(signBit | infinite), numOf(signBit | infinite), 0},
		{numOf(noNumber), numOf(noNumber), 0}, {numOf(noNumber), numOf(signBit | infinite), -1}, {numOf(noNumber), num(0), -1}, {numOf(noNumber), numOf(infinite), -1}, {numOf(noNumber), api.Cell{}, -1}, {numOf(noNumber), strNum("-1e400", math.Inf(-1)), -1},
		{strNum("10", 10), strNum("9", 9), 1}, {strNum("10", 10), num(9), 1}, {strNum("1.0", 1), strNum(" 1", 1), 0}, {strNum("1e3", 1000), num(1000), 0}, {strNum("-0", minus0), strNum("0", 0), 0}, {strNum("-0", minus0), num(0), 0}, {strNum("1e400", math.Inf(1)), numOf(infinite), 0}, {strNum("9007199254740993", 1<<53), num(1 << 53), 0},
		{api.Cell{}, num(0), 0}, {api.Cell{}, num(minus0), 0}, {api.Cell{}, num(1), -1}, {api.Cell{}, num(-1), 1}, {api.Cell{}, strNum("0", 0), 0}, {api.Cell{}, strNum("+1", 1), -1}, {api.Cell{}, api.Cell{}, 0},
		// By what the cells have, right or not.
		{api.Cell{N: bitsOf(7), S: "7"}, num(0), 0}, {strNum("7", 1), num(2), -1}, {strNum("x", 1), num(2), -1}, {api.Cell{Kind: api.Num, N: bitsOf(7), S: "8"}, num(7), 0},
	} {
		for _, convfmt := range []string{usual, "%z", "", "%d"} {
			compares(t, x.a, x.b, convfmt, x.want)
		}
	}
}

// P8.3: to an order what is no number is one, whatever its bits are.
func TestCompareNoNumbers(t *testing.T) {
	for _, bits := range notNumbers() {
		compares(t, numOf(bits), numOf(noNumber), usual, 0)
		compares(t, numOf(bits), api.Cell{Kind: api.StrNum, N: bits, S: "x"}, usual, 0)
		compares(t, numOf(bits), numOf(signBit|infinite), usual, -1)
		compares(t, numOf(bits), api.Cell{}, usual, -1)
		compares(t, numOf(bits), str("nan"), usual, 0)
	}
}

// P8.3: if one is a Str, or of no kind, they are compared by their texts.
func TestCompareTexts(t *testing.T) {
	for _, x := range []struct {
		a, b api.Cell
		want int
	}{
		{str(""), str(""), 0}, {str(""), str("\x00"), -1}, {str("a"), str("a"), 0}, {str("a"), str("ab"), -1}, {str("abc"), str("abd"), -1}, {str("abc"), str("ab"), 1}, {str("B"), str("a"), -1}, {str("a"), str("a\x00"), -1}, {str("a\x00"), str("a\x01"), -1}, {str("a\xff"), str("a"), 1},
		{str("\x00"), str("\xff"), -1}, {str("\x7f"), str("\x80"), -1}, {str("\xff"), str("é"), 1}, {str("\xff"), str("\U0010ffff"), 1}, {str("\xc3\x28"), str("\xc3\xa9"), -1}, {str("a\x00b"), str("a\x00c"), -1},
		{str("10"), str("9"), -1}, {str("1"), str("1.0"), -1}, {str(" 1"), str("1"), -1}, {str("-0"), str("0"), -1},
		{str("10"), strNum("9", 9), -1}, {str("9"), strNum("10", 10), 1}, {str("10"), strNum("10", 10), 0}, {str("1"), strNum("1.0", 1), -1}, {str(""), strNum("0", 0), -1},
		{str("10"), num(9), -1}, {str("10"), num(10), 0}, {str("0.10"), num(0.1), 1}, {str("0.1"), num(0.1), 0}, {str("1000000"), num(1e6), 0}, {str("0"), numOf(signBit), 0}, {str("-0"), numOf(signBit), -1}, {str("nan"), numOf(noNumber), 0}, {str("inf"), numOf(infinite), 0}, {str("-inf"), numOf(signBit | infinite), 0}, {str("1e+16"), num(1e16), 0},
		{api.Cell{}, str(""), 0}, {api.Cell{}, str("0"), -1}, {api.Cell{}, str("\x00"), -1},
		{api.Cell{Kind: 4}, str(""), 0}, {api.Cell{Kind: 4}, api.Cell{Kind: 255}, 0}, {api.Cell{Kind: 4, N: bitsOf(1)}, api.Cell{Kind: 4, N: bitsOf(2)}, 0}, {api.Cell{Kind: 4, S: "a"}, api.Cell{Kind: 255, S: "b"}, 0}, {api.Cell{Kind: 4}, api.Cell{}, 0}, {api.Cell{Kind: 4, N: bitsOf(7)}, api.Cell{}, 0}, {api.Cell{Kind: 4}, num(0), -1}, {api.Cell{Kind: 255, N: bitsOf(7)}, num(-1), -1}, {api.Cell{Kind: 255}, numOf(noNumber), -1}, {api.Cell{Kind: 4, N: bitsOf(7)}, strNum("1", 1), -1}, {api.Cell{Kind: 4, S: "b"}, str("a"), -1},
		// By what the cells have, right or not.
		{api.Cell{S: "a"}, str(""), 0}, {api.Cell{Kind: api.Str, N: bitsOf(1), S: "b"}, api.Cell{Kind: api.Str, N: bitsOf(2), S: "a"}, 1}, {api.Cell{Kind: api.Num, N: bitsOf(7), S: "a"}, str("7"), 0}, {strNum("a", 1), str("a"), 0},
	} {
		compares(t, x.a, x.b, usual, x.want)
	}
	for a := range 256 {
		for b := range 256 {
			compares(t, str(string([]byte{'x', byte(a)})), str(string([]byte{'x', byte(b)})), usual, modelOrder(int64(a), int64(b)))
		}
	}
}

// P8.3: a number that is held against a text goes by convfmt.
func TestCompareByFormat(t *testing.T) {
	for _, x := range []struct {
		f             float64
		convfmt, text string
		want          int
	}{
		{0.1, "%.3f", "0.100", 0}, {0.1, "%.3f", "0.1", 1}, {0.1, "%.3f", "0.1001", -1}, {17, "%.3f", "17", 0}, {2.7, "%d", "2", 0}, {0.5, "", "", 0}, {0.5, "", "\x00", -1}, {0.5, "abc", "abc", 0}, {0.5, "b", "a", 1}, {0.5, "%s", "0.5", 0}, {0.5, "%g %g", "0.5 0", 0}, {65.5, "%c", "A", 0}, {0.5, "\xff", "z", 1},
	} {
		compares(t, num(x.f), str(x.text), x.convfmt, x.want)
	}
}

// P8.3: the errors are those of the texts; 0 stands beside them.
func TestCompareErrors(t *testing.T) {
	long := strings.Repeat("x", maxText+1)
	for _, x := range []struct {
		convfmt string
		want    api.Errno
	}{{"%", api.ErrFormat}, {"%z", api.ErrFormat}, {"%5", api.ErrFormat}, {"%4097g", api.ErrFormat}, {"%g %z", api.ErrFormat}, {long, api.ErrLong}, {long + "%z", api.ErrLong}} {
		for _, f := range []float64{0.5, -0.5, 1e16, math.Inf(1), math.NaN()} {
			for _, c := range []api.Cell{str(""), str("a"), str("0.5"), str("\xff"), {Kind: 4}, {Kind: 255, N: noNumber, S: "a"}} {
				comparesNot(t, num(f), c, x.convfmt, x.want)
			}
			// By numbers no text is asked for, be there an error of both.
			compares(t, num(f), num(f), x.convfmt, 0)
			compares(t, num(f), strNum("1e400", math.Inf(1)), x.convfmt, modelOrder(modelRank(bitsOf(f)), infinite))
			compares(t, num(f), api.Cell{}, x.convfmt, modelOrder(modelRank(bitsOf(f)), 0))
		}
		// Nor has a whole number, or a text, an error.
		compares(t, num(1), str("1"), x.convfmt, 0)
		compares(t, num(-7), api.Cell{Kind: 4}, x.convfmt, 1)
		compares(t, str("b"), str("a"), x.convfmt, 1)
		compares(t, strNum("0.5", 0.5), str("0.5"), x.convfmt, 0)
		compares(t, api.Cell{}, str("0.5"), x.convfmt, -1)
	}
	comparesNot(t, num(5000.5), str("a"), "%*d", api.ErrFormat)
	compares(t, num(5000.5), num(5000.25), "%*d", 1)
}

// P8.3: of all cells by all formats what the chapter's words say.
func TestCompareAll(t *testing.T) {
	cells := slices.DeleteFunc(someCells(), func(c api.Cell) bool {
		return c.Kind == 5 || c.Kind == 127 || c.Kind == 128
	})
	r := seeded()
	for _, convfmt := range formats() {
		for range 20000 {
			a, b := cells[r.Intn(len(cells))], cells[r.Intn(len(cells))]
			want, wantErr := modelCompare(a, b, convfmt)
			comparesSo(t, a, b, convfmt, want, wantErr)
		}
	}
	texts := append(oddTexts(), wildTexts(1000)...)
	for range 100000 {
		a, b := Look(texts[r.Intn(len(texts))]), Look(texts[r.Intn(len(texts))])
		want, wantErr := modelCompare(a, b, usual)
		comparesSo(t, a, b, usual, want, wantErr)
	}
}

// isOrder says that Compare is an order on some cells: of any two one is below
// the other one, or they are the same; and what is below goes on to a third.
func isOrder(t *testing.T, cells []api.Cell, convfmt string) {
	t.Helper()
	told := make([][]int, len(cells))
	for i, a := range cells {
		for _, b := range cells {
			n, err := Compare(a, b, convfmt)
			if err != api.OK || n < -1 || n > 1 {
				t.Fatalf("Compare(%s, %s) = %d, %d", tell(a), tell(b), n, err)
			}
			told[i] = append(told[i], n)
		}
	}
	for i, a := range cells {
		if told[i][i] != 0 {
			t.Errorf("%s is not the same as itself", tell(a))
		}
		for j, b := range cells {
			if told[i][j] != -told[j][i] {
				t.Errorf("%s and %s: %d, and %d the other way about", tell(a), tell(b), told[i][j], told[j][i])
			}
			for k, c := range cells {
				if told[i][j] <= 0 && told[j][k] <= 0 && told[i][k] != min(told[i][j], told[j][k]) {
					t.Fatalf("%s, %s, %s: %d, %d, but %d", tell(a), tell(b), tell(c), told[i][j], told[j][k], told[i][k])
				}
			}
		}
	}
}

// P8.4: on right cells that are compared by number Compare is an order, even if
// convfmt may not be; sorted by it, they lie as their ranks do.
func TestOrderOfNumbers(t *testing.T) {
	cells := []api.Cell{{}, {}}
	for _, bits := range oddNumbers() {
		cells = append(cells, numOf(bits))
	}
	for _, s := range oddTexts() {
		if c := Look(s); c.Kind == api.StrNum && len(cells) < 200 {
			cells = append(cells, c)
		}
	}
	isOrder(t, cells, usual)
	isOrder(t, cells[:40], "%z")
	sortCells(t, cells)
	for i := 1; i < len(cells); i++ {
		if a, b := cells[i-1], cells[i]; modelRank(modelBits(a)) > modelRank(modelBits(b)) {
			t.Errorf("%s is sorted ahead of %s", tell(a), tell(b))
		}
	}
	if c := cells[0]; c.N != noNumber {
		t.Errorf("%s is sorted ahead of all", tell(c))
	}
}

// P8.4: and it is one on texts.
func TestOrderOfTexts(t *testing.T) {
	var cells []api.Cell
	for i, s := range append(oddTexts(), wildTexts(40)...) {
		if i < 130 || i%7 == 0 {
			cells = append(cells, str(s))
		}
	}
	isOrder(t, cells, usual)
	isOrder(t, cells[:40], "%z")
	sortCells(t, cells)
	for i := 1; i < len(cells); i++ {
		if a, b := cells[i-1], cells[i]; modelBytes(a.S, b.S) > 0 {
			t.Errorf("%s is sorted ahead of %s", tell(a), tell(b))
		}
	}
}

func sortCells(t *testing.T, cells []api.Cell) {
	t.Helper()
	slices.SortFunc(cells, func(a, b api.Cell) int {
		n, err := Compare(a, b, usual)
		if err != api.OK {
			t.Errorf("Compare(%s, %s) = %d", tell(a), tell(b), err)
		}
		return n
	})
}

// R4: an answer hangs on the arguments alone, and of these on nothing that their
// kinds do not ask.
func TestSameAnswers(t *testing.T) {
	cells := someCells()
	r := seeded()
	for range 20000 {
		a, b := cells[r.Intn(len(cells))], cells[r.Intn(len(cells))]
		n, err := Compare(a, b, usual)
		if again, errAgain := Compare(stripped(a), stripped(b), usual); again != n || errAgain != err {
			t.Errorf("Compare(%s, %s) = %d, %d; without what is not asked %d, %d", tell(a), tell(b), n, err, again, errAgain)
		}
		if again, errAgain := Compare(a, b, usual); again != n || errAgain != err {
			t.Errorf("Compare(%s, %s) = %d, %d; then %d, %d", tell(a), tell(b), n, err, again, errAgain)
		}
	}
}

// stripped tells a cell without what its kind does not ask.
func stripped(c api.Cell) api.Cell {
	switch c.Kind {
	case api.Uninit:
		return api.Cell{}
	case api.Num:
		return numOf(c.N)
	case api.Str:
		return str(c.S)
	case api.StrNum:
		return c
	}
	return api.Cell{Kind: c.Kind, N: c.N}
}
