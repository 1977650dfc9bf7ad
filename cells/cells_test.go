package cells

import (
	"math"
	"strings"
	"testing"

	"winnower/api"
	"winnower/printf"
)

// The chapter's examples.
func TestExamples(t *testing.T) {
	isCell(t, `Look("12")`, Look("12"), strNum("12", 12))
	isCell(t, `Look("12a")`, Look("12a"), str("12a"))
	isNumber(t, str("3x"), bitsOf(3))
	isText(t, num(0.1), usual, "0.1")
	isText(t, num(1e6), usual, "1000000")
	isTrue(t, str("0"), true)
	isTrue(t, strNum("0", 0), false)
	compares(t, strNum("10", 10), strNum("9", 9), usual, 1)
	compares(t, str("10"), strNum("9", 9), usual, -1)
	compares(t, api.Cell{}, num(0), usual, 0)
	compares(t, api.Cell{}, str(""), usual, 0)
}

// P8.1: the Num of a number has its bits, and no text.
func TestNumber(t *testing.T) {
	for _, bits := range oddNumbers() {
		isCell(t, "Number of "+tell(numOf(bits)), Number(math.Float64frombits(bits)), numOf(bits))
	}
	isCell(t, "Number(0)", Number(0), api.Cell{Kind: 1, N: 0})
	isCell(t, "Number(-0)", Number(math.Copysign(0, -1)), api.Cell{Kind: 1, N: 1 << 63})
	isCell(t, "Number(-1.5)", Number(-1.5), api.Cell{Kind: 1, N: 0xbff8000000000000})
}

// P8.1: what is no number has one form, whatever its bits are.
func TestNumberOfNone(t *testing.T) {
	for _, bits := range notNumbers() {
		isCell(t, "Number of "+tell(numOf(bits)), Number(math.Float64frombits(bits)), api.Cell{Kind: 1, N: 0x7ff8000000000001})
	}
}

// P8.1: the Str of a text has that, and never a number.
func TestText(t *testing.T) {
	for _, s := range append(oddTexts(), wildTexts(500)...) {
		isCell(t, "Text("+brief(s)+")", Text(s), api.Cell{Kind: 2, S: s})
	}
}

// P8.1: texts that look numeric, with blanks, signs and points.
func TestLookNumeric(t *testing.T) {
	minus0 := math.Copysign(0, -1)
	for _, x := range []struct {
		s string
		f float64
	}{
		{"0", 0}, {"-0", minus0}, {"+0", 0}, {"00", 0}, {"-0.0e7", minus0}, {".0", 0}, {"0.", 0},
		{"1", 1}, {"+1", 1}, {"-1", -1}, {"007", 7}, {"1.", 1}, {".5", 0.5}, {"-.5", -0.5}, {"+5.", 5}, {"1.50", 1.5}, {"1e3", 1000}, {"1E+3", 1000}, {"-1.e-3", -0.001}, {".5e1", 5},
		{" 12", 12}, {"12 ", 12}, {" 12\n", 12}, {"\t\n\v\f\r 12\r\f\v\n\t ", 12}, {" -7 ", -7}, {" +.5 ", 0.5},
		{"1e400", math.Inf(1)}, {"-1e400", math.Inf(-1)}, {"1e-400", 0}, {"-1e-400", minus0}, {"5e-324", math.SmallestNonzeroFloat64}, {"1.7976931348623157e308", math.MaxFloat64}, {"-1.7976931348623157e308", -math.MaxFloat64},
		{"9007199254740993", 1 << 53}, {strings.Repeat("0", 900) + "7", 7}, {"0." + strings.Repeat("0", 900) + "7e901", 7},
	} {
		isCell(t, "Look("+brief(x.s)+")", Look(x.s), api.Cell{Kind: 3, N: bitsOf(x.f), S: x.s})
	}
}

// P8.1: texts that do not look numeric, many of them by one byte.
func TestLookNot(t *testing.T) {
	for _, s := range []string{
		"", " ", "\n", "\t \v", "+", "-", ".", "-.", "e", "e1", ".e1", "E5", "\x00", "\xff",
		"1a", "a1", "1 a", "1 1", "- 1", "+-1", "1-", "1+", "--1", "1..", "1.5.", ".5.", "1,5", "1e", "1e+", "1e-", "1e 1", "1ee1", "1e1.", "1e1e1", "1e+-1", "e1e1",
		"0x1", "0X1", "0b1", "1_0", "nan", "NaN", "+nan", "inf", "-inf", "Inf", "infinity", "1f", "１",
		"1\x00", "\x001", "1\xff", "\xff1", "1\x08", "1\x0e", "1\x1f", "1!", "1\x85", "1\xa0", "\xa01", "1\u00a0", "\x081", "\x0e1",
		"12a", "12\n3", strings.Repeat("0", 900) + "x",
	} {
		isCell(t, "Look("+brief(s)+")", Look(s), api.Cell{Kind: 2, S: s})
	}
}

// P8.1: of all bytes only a digit, or Space beside one, looks numeric; of all
// short texts and of many others what the model says does.
func TestLookAll(t *testing.T) {
	holds := func(s string) {
		t.Helper()
		want := str(s)
		if onlyNumeral.MatchString(s) {
			want = api.Cell{Kind: api.StrNum, N: modelSaid(s), S: s}
		}
		isCell(t, "Look("+brief(s)+")", Look(s), want)
		isRight(t, Look(s), true)
	}
	for _, s := range append(oddTexts(), wildTexts(20000)...) {
		holds(s)
	}
	for _, s := range allTexts("01.-+e \nx", 5) {
		holds(s)
	}
}

// allTexts tells all texts of so many of some bytes, at most.
func allTexts(bytes string, most int) []string {
	all := []string{""}
	for from, n := 0, 0; n < most; n++ {
		to := len(all)
		for _, s := range all[from:to] {
			for i := range len(bytes) {
				all = append(all, s+bytes[i:i+1])
			}
		}
		from = to
	}
	return all
}

// P8.1: what is made is right.
func TestMadeIsRight(t *testing.T) {
	isRight(t, api.Cell{}, true)
	for _, bits := range append(oddNumbers(), notNumbers()...) {
		isRight(t, Number(math.Float64frombits(bits)), true)
	}
	for _, s := range append(oddTexts(), wildTexts(500)...) {
		isRight(t, Text(s), true)
		isRight(t, Look(s), true)
	}
}

// P8.1: cells that are right, and those beside them that are not.
func TestRight(t *testing.T) {
	minus0 := math.Copysign(0, -1)
	for _, c := range []api.Cell{
		{}, num(0), num(minus0), num(1), num(0.1), numOf(greatest), numOf(least), numOf(infinite), numOf(signBit | infinite), numOf(noNumber),
		str(""), str("a"), str("0"), str("12"), str(" 12\n"), str("\x00"), str("\xff"), strNum("12", 12), strNum(" 12\n", 12), strNum("-0", minus0), strNum("1e400", math.Inf(1)), strNum(".5", 0.5),
	} {
		isRight(t, c, true)
	}
	for _, c := range []api.Cell{
		{N: 1}, {N: signBit}, {N: noNumber}, {S: "a"}, {S: "0"}, {S: "\x00"}, {N: bitsOf(1), S: "1"},
		{Kind: api.Num, S: "0"}, {Kind: api.Num, N: bitsOf(1), S: "1"}, {Kind: api.Num, N: noNumber, S: "nan"}, {Kind: api.Num, N: noNumber + 1}, {Kind: api.Num, N: noNumber - 1}, {Kind: api.Num, N: signBit | noNumber}, {Kind: api.Num, N: infinite | 1}, {Kind: api.Num, N: 1<<64 - 1},
		{Kind: api.Str, N: 1}, {Kind: api.Str, N: signBit}, {Kind: api.Str, N: bitsOf(12), S: "12"}, {Kind: api.Str, N: noNumber, S: "nan"}, {Kind: api.Str, N: least, S: "a"},
		{Kind: api.StrNum}, {Kind: api.StrNum, S: "a"}, {Kind: api.StrNum, S: " "}, {Kind: api.StrNum, S: "12"}, {Kind: api.StrNum, N: bitsOf(12)}, {Kind: api.StrNum, N: bitsOf(12), S: "12a"}, {Kind: api.StrNum, N: bitsOf(12) + 1, S: "12"}, {Kind: api.StrNum, N: bitsOf(-12), S: "12"},
		{Kind: api.StrNum, S: "-0"}, {Kind: api.StrNum, N: signBit, S: "0"}, {Kind: api.StrNum, N: noNumber, S: "nan"}, {Kind: api.StrNum, N: infinite, S: "inf"}, {Kind: api.StrNum, N: greatest, S: "1e400"},
		{Kind: 4}, {Kind: 255}, {Kind: 4, N: bitsOf(1)}, {Kind: 255, S: "a"}, {Kind: 4, S: "12", N: bitsOf(12)}, {Kind: 128}, {Kind: 129}, {Kind: 130},
	} {
		isRight(t, c, false)
	}
}

// P8.1: of all kinds, with all sorts of numbers and texts, the chapter's words.
func TestRightAll(t *testing.T) {
	for _, c := range someCells() {
		isRight(t, c, modelRight(c))
	}
	for kind := range 256 {
		isRight(t, api.Cell{Kind: api.CellKind(kind)}, kind < 3)
	}
	for _, bits := range notNumbers() {
		isRight(t, numOf(bits), bits == noNumber)
		isRight(t, api.Cell{Kind: api.StrNum, N: bits, S: "0"}, false)
	}
}

// P8.2: a cell's number, of each kind; what is not the kind's is not asked.
func TestNumbers(t *testing.T) {
	minus0 := uint64(signBit)
	for _, x := range []struct {
		c    api.Cell
		want uint64
	}{
		{api.Cell{}, 0}, {api.Cell{N: bitsOf(7)}, 0}, {api.Cell{S: "7"}, 0}, {api.Cell{N: infinite | 1}, 0},
		{num(7), bitsOf(7)}, {num(0), 0}, {numOf(minus0), minus0}, {numOf(greatest), greatest}, {numOf(signBit | least), signBit | least}, {numOf(infinite), infinite}, {api.Cell{Kind: api.Num, N: bitsOf(7), S: "8"}, bitsOf(7)}, {api.Cell{Kind: api.Num, S: "8"}, 0},
		{str(""), 0}, {str("7"), bitsOf(7)}, {str("3x"), bitsOf(3)}, {str(" -0.5e1x"), bitsOf(-5)}, {str("-0"), minus0}, {str("-x"), 0}, {str("x7"), 0}, {str("1e"), bitsOf(1)}, {str("nan"), 0}, {str("inf"), 0}, {str("0x11"), 0}, {str("1e400x"), infinite}, {str("-1e400"), signBit | infinite}, {str("\x007"), 0}, {str("7\xff"), bitsOf(7)},
		{api.Cell{Kind: api.Str, N: bitsOf(9), S: "7"}, bitsOf(7)}, {api.Cell{Kind: api.Str, N: bitsOf(9), S: "x"}, 0}, {api.Cell{Kind: api.Str, N: noNumber}, 0},
		{strNum("7", 7), bitsOf(7)}, {strNum("-0", math.Copysign(0, -1)), minus0}, {strNum("7", 8), bitsOf(8)}, {strNum("x", 8), bitsOf(8)}, {strNum("7", 0), 0},
		{api.Cell{Kind: 4, N: bitsOf(7), S: "8"}, bitsOf(7)}, {api.Cell{Kind: 255, N: bitsOf(7)}, bitsOf(7)}, {api.Cell{Kind: 4, S: "8"}, 0}, {api.Cell{Kind: 255}, 0},
	} {
		isNumber(t, x.c, x.want)
	}
	for _, c := range someCells() {
		isNumber(t, c, modelBits(c))
	}
	for _, s := range append(oddTexts(), wildTexts(5000)...) {
		isNumber(t, str(s), modelSaid(s))
		isNumber(t, Text(s), modelSaid(s))
		isNumber(t, Look(s), modelSaid(s))
	}
}

// P8.2: a number's bits are told in the one form, whatever the cell has.
func TestNumbersForm(t *testing.T) {
	for _, bits := range notNumbers() {
		for _, kind := range []api.CellKind{api.Num, api.StrNum, 4, 255} {
			isNumber(t, api.Cell{Kind: kind, N: bits}, noNumber)
		}
		isNumber(t, api.Cell{N: bits}, 0)
		isNumber(t, api.Cell{Kind: api.Str, N: bits, S: "2"}, bitsOf(2))
	}
	for _, bits := range oddNumbers() {
		isNumber(t, numOf(bits), bits)
		isNumber(t, Number(math.Float64frombits(bits)), bits)
	}
}

// P8.2: a cell's text, of each kind.
func TestString(t *testing.T) {
	for _, x := range []struct {
		c             api.Cell
		convfmt, want string
	}{
		{api.Cell{}, usual, ""}, {api.Cell{N: bitsOf(0.5)}, usual, ""}, {api.Cell{S: "a"}, usual, ""},
		{num(0), usual, "0"}, {numOf(signBit), usual, "0"}, {num(17), "..", "17"}, {num(-7), "%.3f", "-7"}, {num(9999999999999998), "%d!", "9999999999999998"}, {num(1e16), usual, "1e+16"}, {num(1e20), "%d", "100000000000000000000"},
		{num(0.1), "%.3f", "0.100"}, {num(-2.7), "%d", "-2"}, {num(1.0 / 3), usual, "0.333333"}, {num(3.14159265), "%.4g", "3.142"}, {numOf(least), usual, "4.94066e-324"}, {numOf(greatest), usual, "1.79769e+308"},
		{numOf(infinite), usual, "inf"}, {numOf(signBit | infinite), usual, "-inf"}, {numOf(noNumber), usual, "nan"}, {numOf(signBit | noNumber), usual, "nan"}, {numOf(infinite | 1), "%d", "nan"},
		{num(0.5), "", ""}, {num(0.5), "abc", "abc"}, {num(0.5), "%%", "%"}, {num(0.5), "%s", "0.5"}, {num(0.12345678), "%s|%s", "0.123457|"}, {num(0.5), "%g %g", "0.5 0"}, {num(3.7), "%*d", "  0"}, {num(65.5), "%c", "A"}, {num(0.5), "\x00\xff", "\x00\xff"},
		{api.Cell{Kind: api.Num, N: bitsOf(0.5), S: "a"}, usual, "0.5"}, {api.Cell{Kind: api.Num, S: "a"}, usual, "0"},
		{str(""), usual, ""}, {str("a"), usual, "a"}, {str("0.10"), "%.3f", "0.10"}, {str("%d"), usual, "%d"}, {str("\x00\xff"), usual, "\x00\xff"}, {api.Cell{Kind: api.Str, N: bitsOf(0.5), S: "a"}, usual, "a"}, {api.Cell{Kind: api.Str, N: bitsOf(0.5)}, usual, ""},
		{strNum("0.10", 0.1), usual, "0.10"}, {strNum(" 1 ", 1), "%.3f", " 1 "}, {strNum("1e400", math.Inf(1)), usual, "1e400"}, {strNum("a", 1), usual, "a"}, {strNum("", 0.5), usual, ""},
		{api.Cell{Kind: 4}, usual, ""}, {api.Cell{Kind: 4, N: bitsOf(0.5), S: "a"}, usual, ""}, {api.Cell{Kind: 255, N: bitsOf(1), S: "1"}, usual, ""},
	} {
		isText(t, x.c, x.convfmt, x.want)
	}
}

// P8.2: the error is that of the number's text; where that is not asked for,
// there is none.
func TestStringErrors(t *testing.T) {
	for _, convfmt := range []string{"%", "%z", "%5", "%g%", "%g %z", "%4097g", "%.4097g", "%-%"} {
		for _, f := range []float64{0.1, -0.1, 1e16, math.Inf(1), math.Inf(-1), math.NaN(), math.MaxFloat64, math.SmallestNonzeroFloat64} {
			hasNoText(t, num(f), convfmt, api.ErrFormat)
			hasNoText(t, api.Cell{Kind: api.Num, N: bitsOf(f), S: "a"}, convfmt, api.ErrFormat)
			for _, kind := range []api.CellKind{api.Uninit, api.Str, api.StrNum, 4, 255} {
				isText(t, api.Cell{Kind: kind, N: bitsOf(f)}, convfmt, "")
			}
		}
		isText(t, num(1), convfmt, "1")
		isText(t, numOf(signBit), convfmt, "0")
		isText(t, str("0.1"), convfmt, "0.1")
		isText(t, strNum("0.1", 0.1), convfmt, "0.1")
	}
	hasNoText(t, num(5000.5), "%*d", api.ErrFormat)
	long := strings.Repeat("x", maxText)
	isText(t, num(0.5), long, long)
	hasNoText(t, num(0.5), long+"x", api.ErrLong)
	hasNoText(t, num(0.5), long+"%g", api.ErrLong)
	hasNoText(t, num(0.5), long+"x%z", api.ErrLong)
	hasNoText(t, num(0.5), "%z"+long+"x", api.ErrFormat)
	isText(t, num(5), long+"x", "5")
	isText(t, str(long+"xx"), long+"x", long+"xx")
}

// P8.2: texts are as printf's, of all cells by all formats.
func TestStringAll(t *testing.T) {
	for _, convfmt := range formats() {
		for _, c := range someCells() {
			got, err := String(c, convfmt)
			if want, wantErr := modelText(c, convfmt); got != want || err != wantErr {
				t.Fatalf("String(%s, %q) = %q, %d; want %q, %d", tell(c), convfmt, got, err, want, wantErr)
			}
		}
		for _, bits := range append(oddNumbers(), notNumbers()[:8]...) {
			got, err := String(numOf(bits), convfmt)
			if want, wantErr := printf.Number(bits, convfmt); got != want || err != wantErr {
				t.Fatalf("String(%x, %q) = %q, %d; want %q, %d", bits, convfmt, got, err, want, wantErr)
			}
		}
	}
}

// P8.2: what holds, of each kind.
func TestTrue(t *testing.T) {
	for _, bits := range oddNumbers() {
		holds := bits != 0 && bits != signBit
		isTrue(t, numOf(bits), holds)
		isTrue(t, api.Cell{Kind: api.Num, N: bits, S: "a"}, holds)
		isTrue(t, api.Cell{Kind: api.StrNum, N: bits, S: "0"}, holds)
		isTrue(t, api.Cell{Kind: api.StrNum, N: bits, S: "a"}, holds)
		isTrue(t, api.Cell{Kind: 4, N: bits}, holds)
		isTrue(t, api.Cell{Kind: 255, N: bits, S: "a"}, holds)
		isTrue(t, api.Cell{Kind: api.Str, N: bits}, false)
		isTrue(t, api.Cell{Kind: api.Str, N: bits, S: "0"}, true)
		isTrue(t, api.Cell{N: bits, S: "1"}, false)
	}
	for _, bits := range notNumbers() {
		isTrue(t, numOf(bits), true)
		isTrue(t, api.Cell{Kind: 4, N: bits}, true)
	}
	for _, s := range oddTexts() {
		isTrue(t, Text(s), s != "")
		isTrue(t, api.Cell{S: s}, false)
		isTrue(t, api.Cell{Kind: 4, S: s}, false)
		isTrue(t, api.Cell{Kind: api.StrNum, S: s}, false)
		isTrue(t, Look(s), modelTrue(Look(s)))
	}
	for _, s := range []string{"0", "-0", " 0 ", "+0.0", ".0e9", "1e-400"} {
		isTrue(t, Look(s), false)
		isTrue(t, Text(s), true)
	}
	for _, s := range []string{"1", "-1", "5e-324", "1e400", "a", " ", "\x00", "0x", "nan"} {
		isTrue(t, Look(s), true)
	}
	for _, c := range someCells() {
		isTrue(t, c, modelTrue(c))
	}
}

// P8.4: what was looked at has its text, whatever convfmt is.
func TestLookedAtHasItsText(t *testing.T) {
	for _, s := range append(oddTexts(), wildTexts(2000)...) {
		for _, convfmt := range []string{usual, "", "%.3f", "%z", "%s"} {
			isText(t, Look(s), convfmt, s)
			isText(t, Text(s), convfmt, s)
		}
	}
}

// R3: no answer has memory of what was handed in.
func TestNoMemoryIsShared(t *testing.T) {
	for _, s := range []string{"12", " 12\n", "12a", "a", strings.Repeat("7", 1000), strings.Repeat("a", 1000)} {
		if share(Text(s).S, s) || share(Look(s).S, s) {
			t.Errorf("the cell of %s has its memory", brief(s))
		}
		for _, c := range []api.Cell{str(s), {Kind: api.StrNum, S: s}, num(0.5)} {
			if text, _ := String(c, s); share(text, s) {
				t.Errorf("the text of %s by %s has its memory", tell(c), brief(s))
			}
		}
	}
}

// R1: whatever the arguments are, a call ends.
func TestLongTexts(t *testing.T) {
	digits := strings.Repeat("9", 2*maxText)
	isCell(t, "Look", Look(digits), api.Cell{Kind: api.StrNum, N: infinite, S: digits})
	isCell(t, "Look", Look(digits+"x"), str(digits+"x"))
	isCell(t, "Look", Look("0."+digits), strNum("0."+digits, 1))
	isRight(t, strNum("0."+digits, 1), true)
	isNumber(t, str(digits+"x"), infinite)
	isTrue(t, str(digits), true)
	compares(t, str(digits), str(digits+"0"), usual, -1)
	compares(t, str(digits), str(digits[1:]+"8"), usual, 1)
}
