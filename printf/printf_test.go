package printf

import (
	"math"
	"math/rand"
	"slices"
	"strconv"
	"strings"
	"testing"
	"unsafe"

	"winnower/api"
)

const usual = "%.6g"

// brief keeps what a failing test tells short.
func brief(s string) string {
	if len(s) < 100 {
		return strconv.Quote(s)
	}
	return strconv.Quote(s[:40]) + ".." + strconv.Quote(s[len(s)-40:]) + " of " + strconv.Itoa(len(s)) + " bytes"
}

func tell(args []api.Cell) string {
	var all []string
	for _, c := range args {
		f := strconv.FormatFloat(math.Float64frombits(c.N), 'g', -1, 64)
		all = append(all, strconv.Itoa(int(c.Kind))+":"+f+":"+brief(c.S))
	}
	return strings.Join(all, ", ")
}

// tells says that a format tells a text, and no error.
func tells(t *testing.T, want, format string, args ...api.Cell) {
	t.Helper()
	if text, err := Format(format, args, usual); text != want || err != api.OK {
		t.Errorf("Format(%s; %s) = %s, %d; want %s", brief(format), tell(args), brief(text), err, brief(want))
	}
}

// fails says that a format tells an error, and no text.
func fails(t *testing.T, want api.Errno, format, convfmt string, args ...api.Cell) {
	t.Helper()
	if text, err := Format(format, args, convfmt); text != "" || err != want {
		t.Errorf("Format(%s; %s; %s) = %s, %d; want error %d", brief(format), tell(args), brief(convfmt), brief(text), err, want)
	}
}

// agrees holds a format against the model.
func agrees(t *testing.T, format, convfmt string, args ...api.Cell) {
	t.Helper()
	text, err := Format(format, args, convfmt)
	if want, wantErr := modelFormat(format, args, convfmt); text != want || err != wantErr {
		t.Fatalf("Format(%s; %s; %s) = %s, %d; want %s, %d", brief(format), tell(args), brief(convfmt), brief(text), err, brief(want), wantErr)
	}
}

func blanks(n int) string {
	return strings.Repeat(" ", n)
}

func noughts(n int) string {
	return strings.Repeat("0", n)
}

// The chapter's examples.
func TestExamples(t *testing.T) {
	tells(t, "  -42|7    |00042", "%5d|%-5d|%05d", num(-42), num(7), num(42))
	tells(t, "005 +5  5", "%.3d %+d % d", num(5), num(5), num(5))
	tells(t, "ff 010 FFFFFFFFFFFFFFFF", "%x %#o %X", num(255), num(8), num(-1))
	tells(t, "AhB", "%c%c%c", num(65), str("hello"), num(256+66))
	tells(t, "  3.14|0.000000e+00|1e+06", "%6.2f|%e|%g", num(3.14159), num(0), num(1e6))
	tells(t, "   7%", "%*d%%", num(4), num(7))
	tells(t, "3 ab", "%s %.2s", num(3), str("abc"))
	for _, format := range []string{"%z", "%", "%5"} {
		fails(t, api.ErrFormat, format, usual)
	}
}

// P4.1: whole numbers are themselves, whatever convfmt is; others go by it.
func TestNumber(t *testing.T) {
	for _, x := range []struct {
		f             float64
		convfmt, want string
	}{
		{0.1, "%.3f", "0.100"}, {17, "..", "17"}, {17, "%z", "17"}, {-7, "%", "-7"}, {0, "%.3f", "0"}, {math.Copysign(0, -1), "%.3f", "0"},
		{1e6, usual, "1000000"}, {1e15, usual, "1000000000000000"}, {9999999999999998, "%d!", "9999999999999998"}, {-9999999999999998, "", "-9999999999999998"},
		{1e16, usual, "1e+16"}, {-1e16, usual, "-1e+16"}, {1e16, "%d", "10000000000000000"}, {1e20, usual, "1e+20"}, {1e300, "%.2e", "1.00e+300"},
		{0.1, usual, "0.1"}, {0.5, "%d", "0"}, {-2.7, "%d", "-2"}, {1.0 / 3, usual, "0.333333"}, {-1.0 / 3, "%.2f", "-0.33"}, {3.14159265, "%.4g", "3.142"}, {1e-300, usual, "1e-300"},
		{0.25, "", ""}, {0.25, "abc", "abc"}, {0.25, "%%", "%"}, {0.25, "<%8.3f>", "<   0.250>"}, {65.5, "%c", "A"},
		{0.5, "%g %g", "0.5 0"}, {0.5, "%g|%d|%s|%c|%e", "0.5|0|||0.000000e+00"}, {3.7, "%*d", "  0"}, {2.7, "%.*e", "0.00e+00"}, {-3.7, "%*d|", "0  |"},
		{0.12345678, "%s", "0.123457"}, {0.12345678, "%.4s", "0.12"}, {1e16, "%s", "1e+16"}, {0.12345678, "%10s|", "  0.123457|"},
		{math.NaN(), usual, "nan"}, {math.NaN(), "%d", "nan"}, {math.NaN(), "%5.1f", "  nan"}, {-math.NaN(), usual, "nan"}, {math.NaN(), "%c", "\x00"}, {math.NaN(), "%s", "nan"},
		{math.Inf(1), usual, "inf"}, {math.Inf(-1), usual, "-inf"}, {math.Inf(1), "%x", "inf"}, {math.Inf(-1), "%-6d|", "-inf  |"}, {math.Inf(1), "%s", "inf"},
	} {
		if text, err := Number(math.Float64bits(x.f), x.convfmt); text != x.want || err != api.OK {
			t.Errorf("Number(%v, %q) = %q, %d; want %q", x.f, x.convfmt, text, err, x.want)
		}
	}
	for _, c := range someCells() {
		for _, convfmt := range []string{usual, "%.3f", "%s", "%d %s", "%5.1e|%c", "%z", "%"} {
			text, err := Number(c.N, convfmt)
			if want, wantErr := modelOfNumber(c.N, convfmt); text != want || err != wantErr {
				t.Errorf("Number(%x, %q) = %q, %d; want %q, %d", c.N, convfmt, text, err, want, wantErr)
			}
		}
	}
}

// P4.1: the errors are Format's, and none where convfmt isn't asked.
func TestNumberErrors(t *testing.T) {
	for _, x := range []struct {
		f       float64
		convfmt string
		want    api.Errno
	}{
		{0.5, "%z", api.ErrFormat}, {0.5, "%", api.ErrFormat}, {0.5, "%5", api.ErrFormat}, {0.5, "%4097g", api.ErrFormat}, {0.5, "%g%-%", api.ErrFormat}, {5000.5, "%*d", api.ErrFormat}, {1e16, "%z", api.ErrFormat},
		{0.5, strings.Repeat("x", maxText+1), api.ErrLong}, {0.5, strings.Repeat("x", maxText) + "%g", api.ErrLong}, {0.5, strings.Repeat("%4096g", 257), api.ErrLong},
		{0.5, strings.Repeat("x", maxText+1) + "%z", api.ErrLong}, {0.5, "%z" + strings.Repeat("x", maxText+1), api.ErrFormat},
		{math.NaN(), "%z", api.ErrFormat}, {math.Inf(-1), "%", api.ErrFormat}, {math.Inf(1), "%*d", api.ErrFormat},
	} {
		if text, err := Number(math.Float64bits(x.f), x.convfmt); text != "" || err != x.want {
			t.Errorf("Number(%v, %s) = %s, %d; want error %d", x.f, brief(x.convfmt), brief(text), err, x.want)
		}
	}
	long := strings.Repeat("x", maxText)
	if text, err := Number(math.Float64bits(0.5), long); text != long || err != api.OK {
		t.Errorf("Number by a long convfmt = %s, %d", brief(text), err)
	}
}

// P4.2: what is no part stands as it is; %% is %.
func TestBytes(t *testing.T) {
	var all []byte
	for b := range 256 {
		if b != '%' {
			all = append(all, byte(b))
			tells(t, string([]byte{byte(b)}), string([]byte{byte(b)}), num(1))
		}
	}
	tells(t, string(all), string(all))
	tells(t, "", "")
	tells(t, "", "", num(0.5))
	tells(t, "%", "%%")
	tells(t, "%%", "%%%%")
	tells(t, "%d", "%%d", num(1))
	tells(t, "%1", "%%%d", num(1))
	tells(t, "1%2", "%d%%%d", num(1), num(2))
	tells(t, "100%, \xff\x00é", "100%%, \xff\x00é")
	tells(t, "<1>\n", "<%d>\n", num(1))
}

// P4.2: formats that end within a part, and parts that may not be.
func TestWrongParts(t *testing.T) {
	for _, format := range []string{
		"%", "%%%", "a%", "%d%", "%-", "%+", "% ", "%#", "%0", "%-+ #0", "%5", "%05", "%*", "%.", "%.5", "%5.", "%5.5", "%.*", "%*.*", "%-5.", "% *.",
		"%-%", "%+%", "% %", "%#%", "%0%", "%5%", "%*%", "%.%", "%.0%", "%.*%", "%1.1%", "%00%", "%-5.2%",
		"%ld", "%hd", "%lld", "%jd", "%zd", "%5-d", "%5+d", "%5 d", "%.-3d", "%.+3d", "%. 3d", "%.#x", "%--5-d", "%**d", "%*5d", "%5*d", "%.5*d", "%.*5d", "%.5.5d", "%..d", "%5..d", "%.*.d", "%*.5.d", "%1$d", "%'d",
		"%\x00", "%\n", "%\xff", "%é", "%\"", "%/", "%:", "%D", "%S", "%C", "%I", "%U", "%O", "%a", "%A", "%n", "%p", "%b", "%v", "%q", "%t", "%z", "%l",
		"%4097d", "%.4097d", "%4097.4097d", "%05000d", "%-4097s", "%.4097s", "%4097c", "%.4097c", "%.4097e", "%4097g", "%.4097G", "%.4097f", "%4097x",
		"%65536d", "%4294967295d", "%4294967297d", "%.4294967296d", "%9223372036854775808d", "%18446744073709551616d", "%.18446744073709551617s", "%" + strings.Repeat("9", 400) + "d", "%.1" + noughts(400) + "d",
		"%1" + noughts(100) + "%", "abc%zdef", "%d %d %y",
	} {
		fails(t, api.ErrFormat, format, usual)
		fails(t, api.ErrFormat, format, usual, num(1), num(2), num(3))
		fails(t, api.ErrFormat, "x"+format, usual, str("a"))
	}
	for b := range 256 {
		end := string([]byte{byte(b)})
		for _, begin := range []string{"%", "%5", "%-", "%.3", "%+5.1"} {
			_, err := Format(begin+end, []api.Cell{num(1)}, usual)
			may := strings.Contains("cdiouxXeEfFgGs", end) || begin+end == "%%"
			if may != (err == api.OK) || !may && err != api.ErrFormat {
				t.Errorf("Format(%q): error %d", begin+end, err)
			}
		}
	}
}

// P4.2: widths and precisions of 0, at the limit, with noughts ahead.
func TestCounts(t *testing.T) {
	tells(t, "7", "%0d", num(7))
	tells(t, "7", "%00d", num(7))
	tells(t, "7", "%1d", num(7))
	tells(t, blanks(4095)+"7", "%4096d", num(7))
	tells(t, "7"+blanks(4095), "%-4096d", num(7))
	tells(t, noughts(4095)+"7", "%04096d", num(7))
	tells(t, noughts(4095)+"7", "%0000004096d", num(7))
	tells(t, noughts(4095)+"7", "%.4096d", num(7))
	tells(t, "-"+noughts(4095)+"7", "%.4096d", num(-7))
	tells(t, noughts(4095)+"7", "%4096.4096x", num(7))
	tells(t, "0x"+noughts(4095)+"7", "%#4096.4096x", num(7))
	tells(t, "007", "%."+noughts(500)+"3d", num(7))
	tells(t, noughts(4095)+"7", "%."+noughts(500)+"4096d", num(7))
	tells(t, "  7", "%3d", num(7))
	tells(t, blanks(4094)+"ab", "%4096s", str("ab"))
	tells(t, "ab", "%.4096s", str("ab"))
	tells(t, strings.Repeat("a", 4096), "%.4096s", str(strings.Repeat("a", 5000)))
	tells(t, "a"+blanks(4095), "%-4096c", str("ab"))
	tells(t, "0.5"+noughts(4095), "%.4096f", num(0.5))
	tells(t, "5."+noughts(4096)+"e-01", "%.4096e", num(0.5))
	tells(t, "0.5", "%.4096g", num(0.5))
	tells(t, "2."+noughts(4095), "%#.4096g", num(2))
	for _, letter := range strings.Split("cdiouxXeEfFgGs", "") {
		for _, count := range []string{"", "0", ".", ".0", "0.0", "4096", ".4096", "4096.4096", "4096.", "4097", ".4097", "1.4097", "4097.1"} {
			agrees(t, "%"+count+letter, usual, num(-65.5))
			agrees(t, "%0"+count+letter, usual, num(0))
			agrees(t, "%-#"+count+letter, usual, str("11 eleven"))
		}
	}
}

// P4.2: what a star makes of its argument.
func TestStars(t *testing.T) {
	for _, x := range []struct {
		star        api.Cell
		width, dots string
	}{
		{num(4), "  42", "0042"}, {num(-4), "42  ", "42"}, {num(4.99), "  42", "0042"}, {num(-4.99), "42  ", "42"},
		{num(0), "42", "42"}, {minusNought, "42", "42"}, {num(0.99), "42", "42"}, {num(-0.99), "42", "42"}, {num(-1), "42", "42"}, {num(1), "42", "42"},
		{nan, "42", "42"}, {str("nan"), "42", "42"}, {none, "42", "42"}, {str(""), "42", "42"}, {str("x"), "42", "42"}, {str(" 4x"), "  42", "0042"}, {str("-4"), "42  ", "42"}, {str("4e0"), "  42", "0042"},
		{strNum("4"), "  42", "0042"}, {strNum(" -4.5 "), "42  ", "42"}, {api.Cell{Kind: api.StrNum, N: math.Float64bits(4), S: "9"}, "  42", "0042"},
		{api.Cell{Kind: api.Uninit, N: math.Float64bits(4), S: "4"}, "42", "42"},
		{num(4096), blanks(4094) + "42", noughts(4094) + "42"}, {num(4096.99), blanks(4094) + "42", noughts(4094) + "42"}, {num(-4096), "42" + blanks(4094), "42"}, {num(-4096.99), "42" + blanks(4094), "42"},
	} {
		tells(t, "<"+x.width+">", "<%*d>", x.star, num(42))
		tells(t, "<"+x.dots+">", "<%.*d>", x.star, num(42))
	}
	for _, f := range []float64{4097, 4097.5, 1e6, 1 << 31, 1 << 32, 1 << 63, 1 << 64, 1e300, math.Inf(1)} {
		for _, letter := range strings.Split("cdiouxXeEfFgGs", "") {
			fails(t, api.ErrFormat, "%*"+letter, usual, num(f), num(42))
			fails(t, api.ErrFormat, "%*"+letter, usual, num(-f), num(42))
			fails(t, api.ErrFormat, "%.*"+letter, usual, num(f), num(42))
		}
		tells(t, "42", "%.*d", num(-f), num(42))
		tells(t, "00042", "%05.*d", num(-f), num(42))
		tells(t, "3.140000", "%.*f", num(-f), num(3.14))
		tells(t, "abc", "%.*s", num(-f), str("abc"))
	}
}

// P4.2: a star of each of what is no number, in all forms, is 0.
func TestStarsOfNoNumber(t *testing.T) {
	for _, c := range notNumbers() {
		tells(t, "<42>", "<%*d>", c, num(42))
		tells(t, "<>", "<%.*d>", c, num(0))
	}
}

// P4.2: a star ahead of its part's argument; flags of stars below 0; stars and
// letters without an argument.
func TestArguments(t *testing.T) {
	tells(t, "    3.14|9", "%*.*f|%d", num(8), num(2), num(3.14159), num(9))
	tells(t, "3.14    |9", "%*.*f|%d", num(-8), num(2), num(3.14159), num(9))
	tells(t, "3.141590|9", "%*.*f|%d", num(8), num(-2), num(3.14159), num(9))
	tells(t, "00042|42   |42   |42   ", "%0*d|%0*d|%-*d|%-*d", num(5), num(42), num(-5), num(42), num(5), num(42), num(-5), num(42))
	tells(t, "  7|9", "%*d|%d", num(3), num(7), num(9), num(10))
	tells(t, "007|8|   9", "%.*d|%d|%*d", num(3), num(7), num(8), num(4), num(9))
	tells(t, "0", "%d")
	tells(t, "0", "%*d")
	tells(t, "    0", "%*d", num(5))
	tells(t, "    0", "%*d", num(5), none)
	tells(t, "", "%.*d")
	tells(t, "", "%*.*d")
	tells(t, "     ", "%*.*d", num(5))
	tells(t, "  000", "%*.*d", num(5), num(3))
	tells(t, "|||", "|%s|%c|")
	tells(t, "|   |", "|%3s|")
	tells(t, "|   |", "|%3c|")
	tells(t, "0 0 0 0 0", "%i %o %u %x %X")
	tells(t, "0.000000e+00 0.000000E+00 0.000000 0.000000 0 0", "%e %E %f %F %g %G")
	tells(t, "1 0 ", "%d %d %s", num(1))
	tells(t, "1%2%", "%d%%%d%%", num(1), num(2), num(3))
}

// P4.3: each letter of cells of every kind.
func TestKinds(t *testing.T) {
	all := "%s|%c|%d|%i|%o|%u|%x|%X|%.1e|%.1E|%.1f|%.1F|%g|%G"
	for _, x := range []struct {
		c    api.Cell
		want string
	}{
		{none, "||0|0|0|0|0|0|0.0e+00|0.0E+00|0.0|0.0|0|0"},
		{api.Cell{Kind: api.Uninit, N: math.Float64bits(5), S: "five"}, "||0|0|0|0|0|0|0.0e+00|0.0E+00|0.0|0.0|0|0"},
		{num(75), "75|K|75|75|113|75|4b|4B|7.5e+01|7.5E+01|75.0|75.0|75|75"},
		{api.Cell{Kind: api.Num, N: math.Float64bits(75), S: "x"}, "75|K|75|75|113|75|4b|4B|7.5e+01|7.5E+01|75.0|75.0|75|75"},
		{str("75x"), "75x|7|75|75|113|75|4b|4B|7.5e+01|7.5E+01|75.0|75.0|75|75"},
		{api.Cell{Kind: api.Str, N: math.Float64bits(5), S: "75"}, "75|7|75|75|113|75|4b|4B|7.5e+01|7.5E+01|75.0|75.0|75|75"},
		{str(""), "||0|0|0|0|0|0|0.0e+00|0.0E+00|0.0|0.0|0|0"},
		{str("x75"), "x75|x|0|0|0|0|0|0|0.0e+00|0.0E+00|0.0|0.0|0|0"},
		{strNum(" 75.0 "), " 75.0 |K|75|75|113|75|4b|4B|7.5e+01|7.5E+01|75.0|75.0|75|75"},
		{api.Cell{Kind: api.StrNum, N: math.Float64bits(75), S: "six"}, "six|K|75|75|113|75|4b|4B|7.5e+01|7.5E+01|75.0|75.0|75|75"},
		{nan, "nan|\x00|nan|nan|nan|nan|nan|nan|nan|nan|nan|nan|nan|nan"},
		{inf, "inf|\x00|inf|inf|inf|inf|inf|inf|inf|inf|inf|inf|inf|inf"},
		{minusInf, "-inf|\x00|-inf|-inf|-inf|-inf|-inf|-inf|-inf|-inf|-inf|-inf|-inf|-inf"},
		{str("-1e400"), "-1e400|-|-inf|-inf|-inf|-inf|-inf|-inf|-inf|-inf|-inf|-inf|-inf|-inf"},
		{minusNought, "0|\x00|0|0|0|0|0|0|-0.0e+00|-0.0E+00|-0.0|-0.0|-0|-0"},
		{str("-0x"), "-0x|-|0|0|0|0|0|0|-0.0e+00|-0.0E+00|-0.0|-0.0|-0|-0"},
	} {
		tells(t, x.want, all, slices.Repeat([]api.Cell{x.c}, 14)...)
	}
	for _, c := range notNumbers() {
		tells(t, "nan|\x00|nan|nan|nan|nan|nan|nan|nan|nan|nan|nan|nan|nan", all, slices.Repeat([]api.Cell{c}, 14)...)
	}
	// Of other kinds the chapter says nothing; they have no text.
	for _, kind := range []api.CellKind{4, 5, 127, 255} {
		tells(t, "<><  >", "<%s><%2c>", api.Cell{Kind: kind, S: "x"}, api.Cell{Kind: kind, S: "x"})
	}
}

// P4.3: s.
func TestText(t *testing.T) {
	hello := str("hello")
	tells(t, "hello", "%s", hello)
	tells(t, "   hello|hello   |hello", "%8s|%-8s|%3s", hello, hello, hello)
	tells(t, "he|||h|hello|hello", "%.2s|%.0s|%.s|%.1s|%.5s|%.6s", hello, hello, hello, hello, hello, hello)
	tells(t, "   he|he   |he", "%5.2s|%-5.2s|%1.2s", hello, hello, hello)
	tells(t, "   he|   he", "%05s|%+ #05s", str("he"), str("he"))
	tells(t, "he   ", "%-05s", str("he"))
	tells(t, "\xc3|\xa9x", "%.1s|%s", str("é"), str("\xa9x"))
	tells(t, "  é", "%4s", str("é"))
	tells(t, "a\x00b%d", "%s", str("a\x00b%d"))
	tells(t, "3.1|0.333333| 0.5|1000000|1e+16", "%.3s|%s|%4s|%s|%s", num(math.Pi), num(1.0/3), num(0.5), num(1e6), num(1e16))
	tells(t, "0|-7|0012", "%s|%s|%s", minusNought, num(-7), strNum("0012"))
	for _, x := range []struct {
		want, convfmt string
		c             api.Cell
	}{
		{"0.10", "%.2f", num(0.1)}, {"3", "%.2f", num(3)}, {"0.1", "%.2f", str("0.1")}, {"0.1", "%.2f", strNum("0.1")}, {"", "%.2f", none},
		{"3", "%z", num(3)}, {"x", "%z", str("x")}, {"0.5", "%z", strNum("0.5")}, {"", "%z", none}, {"0.25", "%s", num(0.25)}, {"[0.25]", "[%s]", num(0.25)}, {"", "", num(0.25)},
	} {
		if text, err := Format("%s", []api.Cell{x.c}, x.convfmt); text != x.want || err != api.OK {
			t.Errorf("Format(%%s; %s; %q) = %q, %d", tell([]api.Cell{x.c}), x.convfmt, text, err)
		}
	}
}

// P4.3: c.
func TestByte(t *testing.T) {
	for f, want := range map[float64]string{
		0: "\x00", 65: "A", 65.99: "A", 0.99: "\x00", -0.99: "\x00", 255: "\xff", 256: "\x00", 256 + 66: "B", 511: "\xff", -1: "\xff", -1.9: "\xff", -191: "A", -191.5: "A", -256: "\x00", -255: "\x01", -257: "\xff",
		1<<32 + 65: "A", -1<<32 + 65: "A", 1<<53 + 66: "B", -1<<53 - 2: "\xfe", 1 << 63: "\x00", 1 << 64: "\x00", 1<<60 + 1<<8: "\x00", 1e22: "\x00", 1e300: "\x00", -1e300: "\x00", 233: "\xe9", 8364: "\xac",
	} {
		tells(t, want, "%c", num(f))
		tells(t, want, "%c", api.Cell{Kind: api.StrNum, N: math.Float64bits(f), S: "zzz"})
	}
	for _, c := range append(notNumbers(), nan, inf, minusInf, minusNought) {
		tells(t, "\x00", "%c", c)
	}
	tells(t, "A6e", "%c%c%c", strNum("65"), str("65"), str("e"))
	tells(t, "|\xc3|", "|%c|%c", str("é"), str(""))
	tells(t, "  A|A  |  A|  A|A  ", "%3c|%-3c|%03c|%+ #03c|%-03c", num(65), num(65), num(65), num(65), num(65))
	tells(t, "   |   |   |   ", "%3c|%-3c|%03c|%3c", str(""), str(""), str(""), none)
	tells(t, "A|h|A| h", "%.0c|%.0c|%.5c|%2.3c", num(65), str("hello"), num(65), str("hello"))
}

// P4.3: d and i.
func TestWhole(t *testing.T) {
	for _, letter := range []string{"d", "i"} {
		of := func(want, flags string, f float64) {
			t.Helper()
			tells(t, want, "%"+flags+letter, num(f))
		}
		of("0", "", math.Copysign(0, -1))
		of("0", "", -0.99)
		of("0", "", 0.99)
		of("1", "", 1.99)
		of("-1", "", -1.99)
		of("+0", "+", -0.5)
		of(" 0", " ", math.Copysign(0, -1))
		of("+5", "+ ", 5)
		of("+5", " +", 5)
		of(" 5", " ", 5)
		of("-5", "+ ", -5)
		of("5", "#", 5)
		of("", ".0", 0)
		of("", ".", 0)
		of("", ".0", -0.5)
		of("+", "+.0", 0)
		of(" ", " .0", -0.5)
		of("     ", "5.0", 0)
		of("     ", "05.0", 0)
		of("    +", "+5.0", 0)
		of("5", ".0", 5)
		of("-5", ".0", -5)
		of("0", ".1", 0)
		of("000", ".3", 0)
		of("005", ".3", 5)
		of("-005", ".3", -5)
		of("+005", "+.3", 5)
		of("12345", ".3", 12345)
		of("   42", "5", 42)
		of("42   ", "-5", 42)
		of("00042", "05", 42)
		of("-0042", "05", -42)
		of("+0042", "+05", 42)
		of(" 0042", " 05", 42)
		of("42   ", "-05", 42)
		of("42   ", "0-5", 42)
		of("+42  ", "0+-5", 42)
		of("  042", "05.3", 42)
		of("   42", "05.", 42)
		of(" -042", "05.3", -42)
		of("042  ", "-05.3", 42)
		of("123456", "5", 123456)
		of("123456", "05", 123456)
		of("-123456", "-5", -123456)
		of("2147483648", "", 1<<31)
		of("-9223372036854775808", "", -1<<63)
		of("9223372036854775808", "", 1<<63)
		of("18446744073709551616", "", 1<<64)
		of("-18446744073709551616", "", -1<<64)
		of("10000000000000000000000", "", 1e22)
		of("99999999999999991611392", "", 1e23)
		of("0099999999999999991611392", "025", 1e23)
		of("0099999999999999991611392", ".25", 1e23)
		of("-99999999999999991611392", "", -1e23)
	}
	if text, err := Format("%d", []api.Cell{num(-math.MaxFloat64)}, usual); len(text) != 310 || !strings.HasPrefix(text, "-17976931348623157081452742373170435679807056752584") || err != api.OK {
		t.Errorf("Format of the greatest number = %q, %d", text, err)
	}
}

// P4.3: o, u, x and X.
func TestUnsigned(t *testing.T) {
	of := func(want, format string, f float64) {
		t.Helper()
		tells(t, want, format, num(f))
	}
	for f, want := range map[float64]string{
		0: "0 0 0 0", 0.9: "0 0 0 0", -0.9: "0 0 0 0", 1.9: "1 1 1 1", 8: "10 8 8 8", 10: "12 10 a A", 255: "377 255 ff FF", 0xabcdef: "52746757 11259375 abcdef ABCDEF",
		-1: "1777777777777777777777 18446744073709551615 ffffffffffffffff FFFFFFFFFFFFFFFF", -1.9: "1777777777777777777777 18446744073709551615 ffffffffffffffff FFFFFFFFFFFFFFFF",
		-2: "1777777777777777777776 18446744073709551614 fffffffffffffffe FFFFFFFFFFFFFFFE", -256: "1777777777777777777400 18446744073709551360 ffffffffffffff00 FFFFFFFFFFFFFF00",
		1 << 31: "20000000000 2147483648 80000000 80000000", 1<<32 + 5: "40000000005 4294967301 100000005 100000005", 1<<63 - 1024: "777777777777777776000 9223372036854774784 7ffffffffffffc00 7FFFFFFFFFFFFC00",
		1 << 63: "1000000000000000000000 9223372036854775808 8000000000000000 8000000000000000", -1 << 63: "1000000000000000000000 9223372036854775808 8000000000000000 8000000000000000",
		1<<63 + 2048: "1000000000000000004000 9223372036854777856 8000000000000800 8000000000000800", 1<<64 - 2048: "1777777777777777774000 18446744073709549568 fffffffffffff800 FFFFFFFFFFFFF800",
		-1<<63 - 2048: "777777777777777774000 9223372036854773760 7ffffffffffff800 7FFFFFFFFFFFF800", -1<<64 + 2048: "4000 2048 800 800",
		1 << 64: "0 0 0 0", -1 << 64: "0 0 0 0", 1<<64 + 4096: "10000 4096 1000 1000", -1<<64 - 4096: "1777777777777777770000 18446744073709547520 fffffffffffff000 FFFFFFFFFFFFF000",
		3 << 64: "0 0 0 0", 1e300: "0 0 0 0", -1e300: "0 0 0 0", 1e20: "657072742654304000000 7766279631452241920 6bc75e2d63100000 6BC75E2D63100000",
	} {
		c := num(f)
		tells(t, want, "%o %u %x %X", c, c, c, c)
	}
	tells(t, "0 0 0 0", "%o %u %x %X", minusNought, minusNought, minusNought, minusNought)
	for _, format := range []string{"%o", "%u", "%x", "%X"} {
		flag := func(flags string) string { return "%" + flags + format[1:] }
		of("7", flag("+"), 7)
		of("7", flag(" "), 7)
		of("    7", flag("+5"), 7)
		of("00007", flag("+05"), 7)
		of("7    ", flag("-5"), 7)
		of("7    ", flag("-05"), 7)
		of("  007", flag("05.3"), 7)
		of("  007", flag("5.3"), 7)
		of("007", flag(".3"), 7)
		of("", flag(".0"), 0)
		of("", flag("."), -0.5)
		of("   ", flag("03.0"), 0)
		of("", flag(".0"), 1<<64)
		of("0", flag(".1"), 0)
		of("000", flag(".3"), 0)
		of("0", flag("#"), 0)
		of("0", flag("#"), 1<<64)
		of("    0", flag("#5"), 0)
		of("00000", flag("#05"), 0)
	}
	of("7", "%#u", 7)
	of("00007", "%#05u", 7)
	of("", "%#.0u", 0)
	of("", "%#.0x", 0)
	of("", "%#.0X", 0)
	of("", "%#.0x", 1<<64)
	of("0", "%#.0o", 0)
	of("  0", "%#3.0o", 0)
	of("0", "%#.0o", 1<<64)
	of("010", "%#o", 8)
	of("010", "%#.1o", 8)
	of("010", "%#.2o", 8)
	of("010", "%#.3o", 8)
	of("0010", "%#.4o", 8)
	of("010", "%#.0o", 8)
	of("  010", "%#5o", 8)
	of("00010", "%#05o", 8)
	of("010  ", "%-#05o", 8)
	of("0xff", "%#x", 255)
	of("0XFF", "%#X", 255)
	of("0x00ff", "%#.4x", 255)
	of("0X00FF", "%#.4X", 255)
	of("  0xff", "%#6x", 255)
	of("0x00ff", "%#06x", 255)
	of("0X00FF", "%#06X", 255)
	of("0xff  ", "%-#06x", 255)
	of("  0x00ff", "%#08.4x", 255)
	of("0xff", "%#03x", 255)
	of("0xffffffffffffffff", "%#x", -1)
}

// P4.3: e, E, f, F, g and G.
func TestPointed(t *testing.T) {
	for _, x := range []struct {
		format string
		f      float64
		want   string
	}{
		{"%e", 12345.678, "1.234568e+04"}, {"%E", 12345.678, "1.234568E+04"}, {"%f", 12345.678, "12345.678000"}, {"%F", 12345.678, "12345.678000"}, {"%g", 12345.678, "12345.7"}, {"%G", 12345.678, "12345.7"},
		{"%e", -1e-10, "-1.000000e-10"}, {"%E", -1e-10, "-1.000000E-10"}, {"%f", -1e-10, "-0.000000"}, {"%g", -1e-10, "-1e-10"}, {"%G", -1e-10, "-1E-10"}, {"%G", 1e100, "1E+100"}, {"%g", 1e6, "1e+06"}, {"%g", 999999, "999999"}, {"%g", 0.0001, "0.0001"}, {"%g", 0.00001, "1e-05"},
		{"%.0e", 2, "2e+00"}, {"%.e", 2, "2e+00"}, {"%.0f", 2, "2"}, {"%.f", 2.5, "2"}, {"%.0f", 3.5, "4"}, {"%.0g", 2, "2"}, {"%.g", 25, "2e+01"}, {"%.1g", 35, "4e+01"}, {"%.2f", 2.675, "2.67"}, {"%.20f", 0.1, "0.10000000000000000555"}, {"%.17g", 0.1, "0.10000000000000001"}, {"%.3e", 9.9996, "1.000e+01"},
		{"%#.0e", 2, "2.e+00"}, {"%#.e", 2, "2.e+00"}, {"%#.0E", 2e10, "2.E+10"}, {"%#.0f", 2, "2."}, {"%#.0F", -2.5, "-2."}, {"%#.1e", 2, "2.0e+00"}, {"%#.1f", 2, "2.0"}, {"%#e", 2, "2.000000e+00"}, {"%#f", 2, "2.000000"},
		{"%#g", 2, "2.00000"}, {"%#G", 2, "2.00000"}, {"%#g", 1e10, "1.00000e+10"}, {"%#G", 1e10, "1.00000E+10"}, {"%#.3g", 100, "100"}, {"%#.1g", 2, "2"}, {"%#.0g", 2, "2"}, {"%#.0G", 2e10, "2E+10"}, {"%#.4g", 100, "100.0"}, {"%#g", 0, "0.00000"},
		{"%f", math.Copysign(0, -1), "-0.000000"}, {"%e", math.Copysign(0, -1), "-0.000000e+00"}, {"%g", math.Copysign(0, -1), "-0"}, {"%.0f", -0.4, "-0"}, {"%.1f", -0.04, "-0.0"}, {"%+.0f", -0.4, "-0"}, {"% g", math.Copysign(0, -1), "-0"},
		{"%+f", 1.5, "+1.500000"}, {"% f", 1.5, " 1.500000"}, {"%+ f", 1.5, "+1.500000"}, {"% +f", 1.5, "+1.500000"}, {"%+e", 0, "+0.000000e+00"}, {"% g", 0, " 0"}, {"%+G", 7, "+7"}, {"% E", 7, " 7.000000E+00"}, {"%+F", 7, "+7.000000"}, {"%+f", -1.5, "-1.500000"},
		{"%10.2f", math.Pi, "      3.14"}, {"%-10.2f", math.Pi, "3.14      "}, {"%010.2f", math.Pi, "0000003.14"}, {"%010.2f", -math.Pi, "-000003.14"}, {"%+010.2f", math.Pi, "+000003.14"}, {"% 010.2f", math.Pi, " 000003.14"}, {"%-010.2f", math.Pi, "3.14      "}, {"%+-010.2f", math.Pi, "+3.14     "}, {"%+10.2f", math.Pi, "     +3.14"},
		{"%012e", -1.5, "-1.500000e+00"}, {"%014e", -1.5, "-01.500000e+00"}, {"%014E", 1.5, "001.500000E+00"}, {"%08g", 1e-10, "0001e-10"}, {"%08G", -1e-10, "-001E-10"}, {"%#08.0f", 3, "0000003."}, {"%#08.0e", 3, "003.e+00"}, {"%4.0f", 12345, "12345"},
		{"%f", 1e22, "10000000000000000000000.000000"}, {"%.0f", 1e23, "99999999999999991611392"}, {"%g", 1e22, "1e+22"},
	} {
		tells(t, x.want, x.format, num(x.f))
	}
}

// P4.3: what is no number, or infinite, has no sign of flags, no noughts and no
// capital letters, whatever the precision.
func TestNotFinite(t *testing.T) {
	for _, letter := range strings.Split("diouxXeEfFgG", "") {
		for _, precision := range []string{"", ".", ".0", ".1", ".10"} {
			for _, flags := range []string{"", "+", " ", "#", "0", "+ #0"} {
				for _, c := range append(notNumbers(), nan) {
					tells(t, "nan", "%"+flags+precision+letter, c)
				}
				tells(t, "inf", "%"+flags+precision+letter, inf)
				tells(t, "-inf", "%"+flags+precision+letter, minusInf)
				tells(t, "   nan|   inf|  -inf", strings.Join(slices.Repeat([]string{"%" + flags + "6" + precision + letter}, 3), "|"), nan, inf, minusInf)
				tells(t, "nan   |inf   |-inf  ", strings.Join(slices.Repeat([]string{"%-" + flags + "6" + precision + letter}, 3), "|"), nan, inf, minusInf)
			}
		}
	}
}

// allFlags are all sets of flags.
func allFlags() []string {
	all := []string{""}
	for _, flag := range []string{"-", "+", " ", "#", "0"} {
		for _, flags := range all {
			all = append(all, flags+flag)
		}
	}
	return all
}

// P4.3: each letter with each set of flags, widths, precisions and cells,
// against the model.
func TestAllParts(t *testing.T) {
	cells := someCells()
	r := rand.New(rand.NewSource(1))
	for _, flags := range allFlags() {
		for _, letter := range strings.Split("cdiouxXeEfFgGs", "") {
			for _, width := range []string{"", "1", "2", "5", "13", "40"} {
				for _, precision := range []string{"", ".", ".0", ".1", ".2", ".7", ".25"} {
					for range 8 {
						agrees(t, "%"+flags+width+precision+letter, usual, cells[r.Intn(len(cells))])
					}
				}
			}
			for _, c := range cells {
				agrees(t, "<%"+flags+"8"+letter+">", usual, c)
				agrees(t, "<%"+flags+"9.0"+letter+">", "%.2f", c)
				agrees(t, "<%"+flags+"*.*"+letter+">", "%s", cells[r.Intn(len(cells))], cells[r.Intn(len(cells))], c)
			}
		}
	}
}

// P4.2: flags stand in any order, and any number of times.
func TestFlagsInAnyOrder(t *testing.T) {
	r := rand.New(rand.NewSource(2))
	for range 2000 {
		var flags []byte
		for range r.Intn(12) {
			flags = append(flags, "-+ #0"[r.Intn(5)])
		}
		letter := string("cdiouxXeEfFgGs"[r.Intn(14)])
		c := someCell(r)
		agrees(t, "%"+string(flags)+"12.3"+letter, usual, c)
		agrees(t, "%"+string(flags)+letter, usual, c)
		once := slices.Clone(flags)
		slices.Sort(once)
		once = slices.Compact(once)
		text, err := Format("%"+string(flags)+"12"+letter, []api.Cell{c}, usual)
		if other, otherErr := Format("%"+string(once)+"12"+letter, []api.Cell{c}, usual); text != other || err != otherErr {
			t.Fatalf("flags %q tell %q, flags %q %q", flags, text, once, other)
		}
	}
	tells(t, "00007", "%00005d", num(7))
	tells(t, "00007", "%"+noughts(1000)+"5d", num(7))
	tells(t, "+7   ", "%"+strings.Repeat("+- #0", 1000)+"5d", num(7))
}

// P4.1 to P4.3: formats of all sorts, right and wrong, against the model.
func TestSomeFormats(t *testing.T) {
	r := rand.New(rand.NewSource(3))
	words := []string{"%", "%", "%", "%%", "%d", "%s", "%5", "%-", "%*", "%.", "%.*", "*", ".", "-", "+", " ", "#", "0", "1", "12", "4096", "4097", "a", "\x00", "\xff", "z", "\n",
		"c", "d", "i", "o", "u", "x", "X", "e", "E", "f", "F", "g", "G", "s", "%c", "%x", "%g", "%.3e", "%08.3f", "%-6s", "%+d", "%#o"}
	convfmts := []string{usual, usual, "%.3f", "%d", "%s", "", "x", "%c", "%z", "%", "%s%s", "%*d"}
	for range 150000 {
		var format strings.Builder
		for range r.Intn(9) {
			format.WriteString(words[r.Intn(len(words))])
		}
		args := make([]api.Cell, r.Intn(5))
		for i := range args {
			args[i] = someCell(r)
		}
		agrees(t, format.String(), convfmts[r.Intn(len(convfmts))], args...)
	}
}

// P4.2: texts of as many bytes as may be, and of one more.
func TestLength(t *testing.T) {
	full, more := strings.Repeat("x", maxText), strings.Repeat("x", maxText+1)
	tells(t, full, full)
	tells(t, full, "%s", str(full))
	tells(t, full, "%s", strNum(full))
	tells(t, full, "%-5s", str(full))
	tells(t, full, "%s%s%c%.0d", str(full), none, none, none)
	tells(t, full, "%c%s", str("x"), str(full[1:]))
	tells(t, full[1:]+"%", "%s%%", str(full[1:]))
	tells(t, "xxxxx", "%.5s", str(more))
	tells(t, "x", "%c", str(more))
	tells(t, "0", "%d", str(more))
	tells(t, strings.Repeat(blanks(4095)+"0", 256), strings.Repeat("%4096d", 256))
	tells(t, strings.Repeat("%", maxText), strings.Repeat("%%", maxText))

	fails(t, api.ErrLong, more, usual)
	fails(t, api.ErrLong, "%s", usual, str(more))
	fails(t, api.ErrLong, "%s", usual, strNum(more))
	fails(t, api.ErrLong, "%s%s", usual, str(full), str("x"))
	fails(t, api.ErrLong, full+"%d", usual)
	fails(t, api.ErrLong, full+"%1s", usual)
	fails(t, api.ErrLong, full+"%%", usual)
	fails(t, api.ErrLong, "%d"+full, usual)
	fails(t, api.ErrLong, "%%"+full, usual)
	fails(t, api.ErrLong, strings.Repeat("%4096d", 256)+"x", usual)
	fails(t, api.ErrLong, strings.Repeat("%4096d", 257), usual)
	fails(t, api.ErrLong, "%s", full+"%d", num(0.5))
	fails(t, api.ErrLong, "%.0s", more, num(0.5))
	fails(t, api.ErrLong, "x%s", full, num(0.5))
	if text, err := Format("%s", []api.Cell{num(0.5)}, full); text != full || err != api.OK {
		t.Errorf("Format by a long convfmt = %s, %d", brief(text), err)
	}
}

// P4.2: of several errors the first one from the left counts; arguments that
// are left are not asked.
func TestErrorsFromTheLeft(t *testing.T) {
	full := strings.Repeat("x", maxText)
	more := full + "x"
	half := num(0.5)
	fails(t, api.ErrLong, more+"%z", usual)
	fails(t, api.ErrFormat, full+"%z", usual)
	fails(t, api.ErrFormat, full+"%", usual)
	fails(t, api.ErrFormat, "%z"+more, usual)
	fails(t, api.ErrFormat, "%5%"+more, usual)
	fails(t, api.ErrLong, "%s%z", usual, str(more))
	fails(t, api.ErrFormat, "%z%s", usual, str(more))
	fails(t, api.ErrLong, full+"%d%z", usual)
	fails(t, api.ErrFormat, full+"%s%z", usual)
	fails(t, api.ErrFormat, "%s", "%z", half)
	fails(t, api.ErrFormat, "%.0s", "%z", half)
	fails(t, api.ErrFormat, "%d%s", "%", half, half)
	fails(t, api.ErrLong, "%s%z", more, half)
	fails(t, api.ErrFormat, "%z%s", more, half)
	fails(t, api.ErrFormat, "%4097s", more, half)
	fails(t, api.ErrFormat, "%s"+more, "%z", half)
	fails(t, api.ErrLong, more+"%s", "%z", half)
	fails(t, api.ErrFormat, full+"%s", "%z", half)
	fails(t, api.ErrFormat, "%s%s", "%z", str(full), half)

	for _, x := range []struct {
		want, format string
		args         []api.Cell
	}{
		{"", "", []api.Cell{half}}, {"x", "x", []api.Cell{half}}, {"%", "%%", []api.Cell{half}}, {"1", "%s", []api.Cell{num(1), half}}, {"0", "%d", []api.Cell{half}},
		{"0.5", "%g", []api.Cell{half}}, {"\x00", "%c", []api.Cell{half}}, {"0", "%*d", []api.Cell{half, half}}, {"0.50", "%.*f", []api.Cell{num(2.5), half, half}},
	} {
		if text, err := Format(x.format, x.args, "%z"); text != x.want || err != api.OK {
			t.Errorf("Format(%q; %s; %%z) = %q, %d; want %q", x.format, tell(x.args), text, err, x.want)
		}
	}
}

// somePart is a part that may be, with the arguments that it takes, and the
// least length of what it tells.
func somePart(r *rand.Rand) (format string, args []api.Cell, least int) {
	format = "%"
	for range r.Intn(4) {
		format += string("-+ #0"[r.Intn(5)])
	}
	switch r.Intn(3) {
	case 0:
		least = 1 + r.Intn(30)
		format += strconv.Itoa(least)
	case 1:
		least = r.Intn(30)
		sign := float64(1 - 2*r.Intn(2))
		format, args = format+"*", append(args, num(sign*(float64(least)+r.Float64()/2)))
	}
	switch r.Intn(4) {
	case 0:
		format += "." + strconv.Itoa(r.Intn(30))
	case 1:
		format += "."
	case 2:
		format, args = format+".*", append(args, num(float64(r.Intn(30)-10)))
	}
	return format + string("cdiouxXeEfFgGs"[r.Intn(14)]), append(args, someCell(r)), least
}

// P4.4: no part tells less bytes than its width; formats one behind the other
// tell texts one behind the other, of their arguments.
func TestJoins(t *testing.T) {
	r := rand.New(rand.NewSource(4))
	var format, text strings.Builder
	var args []api.Cell
	for range 20000 {
		part, taken, least := somePart(r)
		told, err := Format(part, taken, usual)
		if err != api.OK || len(told) < least {
			t.Fatalf("Format(%q; %s) = %q, %d: less than %d bytes", part, tell(taken), told, err, least)
		}
		bytes := []string{"", "", "x", "%%", "\xff", ", "}[r.Intn(6)]
		other, _ := Format(bytes, nil, usual)
		format.WriteString(part + bytes)
		text.WriteString(told + other)
		args = append(args, taken...)
		if r.Intn(10) == 0 {
			tells(t, text.String(), format.String(), args...)
			format.Reset()
			text.Reset()
			args = nil
		}
	}
}

// P4.4: as long as that is not too long together.
func TestJoinsTooLong(t *testing.T) {
	part := strings.Repeat("%4096d", 128)
	text, err := Format(part, nil, usual)
	if len(text) != maxText/2 || err != api.OK {
		t.Fatalf("%d bytes, error %d", len(text), err)
	}
	tells(t, text+text, part+part)
	fails(t, api.ErrLong, part+part+"x", usual)
}

// R3: what is handed in is not changed, nor the room behind it; what is handed
// out is new.
func TestArgumentsStayTheirs(t *testing.T) {
	all := someCells()
	before := slices.Clone(all)
	for n := range all {
		Format("%*.*d %s %c %g %d %s", all[:n], usual)
		Format("%z", all[:n], usual)
	}
	if !slices.Equal(all, before) {
		t.Error("the arguments were changed")
	}
	format, s := strings.Repeat("abc", 100), strings.Repeat("def", 100)
	for _, x := range []struct{ from, format string }{{format, format}, {s, "%s"}, {s, "%.200s"}, {s, "%s%s"}} {
		text, _ := Format(x.format, []api.Cell{str(x.from), str("")}, usual)
		begin := uintptr(unsafe.Pointer(unsafe.StringData(x.from)))
		at := uintptr(unsafe.Pointer(unsafe.StringData(text)))
		if len(text) == 0 || at >= begin && at < begin+uintptr(len(x.from)) {
			t.Errorf("Format(%s) shares memory with its argument", brief(x.format))
		}
	}
	text, _ := Number(math.Float64bits(0.5), format)
	if text != format || unsafe.StringData(text) == unsafe.StringData(format) {
		t.Error("Number shares memory with its argument")
	}
}

// R4: the same again, whatever was asked between.
func TestSameAgain(t *testing.T) {
	args := []api.Cell{num(-7), num(3), num(0.1), str("abc"), num(65)}
	text, err := Format("%*.*f|%s|%c|%d", args, usual)
	number, numberErr := Number(math.Float64bits(0.1), "%.3e")
	for _, format := range []string{"%z", "%-9d", "%+.3e", strings.Repeat("x", maxText+1), "%s"} {
		Format(format, args, "%")
		Number(math.Float64bits(2.5), format)
	}
	again, errAgain := Format("%*.*f|%s|%c|%d", args, usual)
	numberAgain, numberErrAgain := Number(math.Float64bits(0.1), "%.3e")
	if text != again || err != errAgain || number != numberAgain || numberErr != numberErrAgain {
		t.Error("another answer")
	}
	if text != "0.100  |abc|A|0" || number != "1.000e-01" || err != api.OK || numberErr != api.OK {
		t.Errorf("%q, %d; %q, %d", text, err, number, numberErr)
	}
}
