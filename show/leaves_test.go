package show

import (
	"fmt"
	"math"
	"strconv"
	"strings"
	"testing"

	"winnower/api"
)

// P15.1: numbers, in 17 places, without the noughts that end them.
func TestNumbers(t *testing.T) {
	for _, c := range []struct {
		want string
		f    float64
	}{
		// Whole ones, up to what is told with a power.
		{"0", 0}, {"1", 1}, {"9", 9}, {"10", 10}, {"100", 100}, {"12345", 12345}, {"1000000", 1e6}, {"4294967296", 1 << 32},
		{"9007199254740991", 1<<53 - 1}, {"9007199254740992", 1 << 53}, {"10000000000000000", 1e16}, {"99999999999999984", 99999999999999984},
		{"1e+17", 1e17}, {"1.2345678901234568e+17", 123456789012345680}, {"9.2233720368547758e+18", 1 << 63}, {"1e+20", 1e20}, {"1e+22", 1e22}, {"9.9999999999999992e+22", 1e23},
		// Others.
		{"0.5", 0.5}, {"0.25", 0.25}, {"1.5", 1.5}, {"2.5", 2.5}, {"0.10000000000000001", 0.1}, {"0.20000000000000001", 0.2}, {"0.29999999999999999", 0.3}, {"0.30000000000000004", math.Nextafter(0.3, 1)},
		{"3.1415926535897931", math.Pi}, {"2.7182818284590451", math.E}, {"0.33333333333333331", 1.0 / 3}, {"0.66666666666666663", 2.0 / 3}, {"1.1000000000000001", 1.1}, {"100.09999999999999", 100.1},
		{"1.0000000000000002", math.Nextafter(1, 2)}, {"0.99999999999999989", math.Nextafter(1, 0)}, {"12345678901.234568", 12345678901.234567},
		// Those that have an exponent, and those next to them.
		{"0.001", 0.001}, {"0.0001", 0.0001}, {"0.00050000000000000001", 0.0005}, {"0.0001220703125", 0x1p-13}, {"6.103515625e-05", 0x1p-14}, {"1.0000000000000001e-05", 0.00001}, {"9.9999999999999995e-07", 1e-6}, {"1e-10", 1e-10}, {"1e-100", 1e-100}, {"1.0000000000000001e+300", 1e300},
		{"6.0221407599999999e+23", 6.02214076e23},
		// The least, and the greatest ones.
		{"4.9406564584124654e-324", 5e-324}, {"9.8813129168249309e-324", 1e-323}, {"2.2250738585072014e-308", 0x1p-1022}, {"2.2250738585072009e-308", math.Nextafter(0x1p-1022, 0)},
		{"1.7976931348623157e+308", math.MaxFloat64}, {"1.7976931348623155e+308", math.Nextafter(math.MaxFloat64, 0)}, {"8.9884656743115795e+307", 0x1p1023},
	} {
		shows(t, c.want, true, number(c.f))
	}
}

// P15.1, P15.2: numbers of all sizes.
func TestManyNumbers(t *testing.T) {
	r := seeded()
	try := func(bits uint64) {
		t.Helper()
		f := math.Float64frombits(bits)
		want := modelNumber(f)
		text, err := Expr(number(f))
		if text != want || err != api.OK {
			t.Errorf("Expr of %x = %s, %d; want %s", bits, text, err, want)
		}
		if back, err := strconv.ParseFloat(text, 64); err != nil || math.Float64bits(back) != bits {
			t.Errorf("%s is %v, not %v", text, back, f)
		}
		goesBack(t, begin(bare(number(f))), "BEGIN {\n\t"+text+"\n}\n")
	}
	for power := -324; power <= 308; power++ {
		f, _ := strconv.ParseFloat("1e"+strconv.Itoa(power), 64)
		try(math.Float64bits(f))
		try(math.Float64bits(f) + 1)
		try(math.Float64bits(f / 10 * 9))
	}
	for bit := range 63 {
		try(1<<bit - 1)
		try(1 << bit)
		try(math.Float64bits(math.Ldexp(1, bit) - 1))
		try(math.Float64bits(math.Ldexp(1, bit)))
	}
	for range 3000 {
		try(r.Uint64() % (0x7ff << 52))
		try(math.Float64bits(float64(r.Intn(1 << 20))))
		try(math.Float64bits(float64(r.Intn(1<<20)) / 1000))
	}
}

// P15.1: texts: each byte alone, ahead of a digit and behind others.
func TestTexts(t *testing.T) {
	for b := range 256 {
		var want string
		switch {
		case b == 34:
			want = `\"`
		case b == 92:
			want = `\\`
		case b == 10:
			want = `\n`
		case b < 32 || b > 126:
			want = fmt.Sprintf(`\%d%d%d`, b/64, b/8%8, b%8)
		default:
			want = string([]byte{byte(b)})
		}
		one := string([]byte{byte(b)})
		shows(t, `"`+want+`"`, true, quote(one))
		for _, s := range []string{"0", "7", "8", "9", "00", "777", "a", "n", `"`, " ", "/"} {
			behind := strings.ReplaceAll(s, `"`, `\"`)
			tells(t, `"`+want+behind+`"`, quote(one+s))
			tells(t, `"`+behind+want+behind+`"`, quote(s+one+s))
			goesBack(t, begin(bare(quote(s+one+s))), "BEGIN {\n\t\""+behind+want+behind+"\"\n}\n")
		}
	}
	for _, c := range []struct{ want, s string }{
		{`""`, ""}, {`"a"`, "a"}, {`"a b"`, "a b"}, {`"\"\""`, `""`}, {`"\\\""`, `\"`}, {`"\\\\"`, `\\`}, {`"\\n"`, `\n`}, {`"\\012"`, `\012`}, {`"a\nb\n"`, "a\nb\n"}, {`"\n\n"`, "\n\n"}, {`"\\\n"`, "\\\n"},
		{`"\011\013\014\015"`, "\t\v\f\r"}, {`"\000\0001"`, "\x00\x001"}, {`"\303\251"`, "é"}, {`"\377\376"`, "\xff\xfe"}, {`"\177~ !"`, "\x7f~ !"}, {`"/a/"`, "/a/"}, {`"\\/"`, `\/`}, {`"# {}"`, "# {}"}, {`"%s"`, "%s"}, {`"'"`, "'"},
	} {
		shows(t, c.want, true, quote(c.s))
	}
}

// P15.1, P15.2: each two bytes of a text, and all bytes in one.
func TestPairsOfBytes(t *testing.T) {
	var all []byte
	for b := range 256 {
		all = append(all, byte(b))
		var kids []api.Expr
		for c := range 256 {
			kids = append(kids, quote(string([]byte{byte(b), byte(c)})))
		}
		held(t, items(rule(expr(api.XCall, "f", kids...))))
	}
	want, _ := Expr(quote(string(all)))
	tells(t, want, quote(string(all)))
	held(t, begin(bare(quote(string(all)+string(all)))))
}

// P15.1: patterns: a slash stands behind a backslash, and nothing else is turned.
func TestPatterns(t *testing.T) {
	for _, c := range []struct{ want, s string }{
		{"//", ""}, {"/a/", "a"}, {"/a b/", "a b"}, {`/\//`, "/"}, {`/\/\//`, "//"}, {`/a\/b/`, "a/b"}, {`/\/a\//`, "/a/"}, {`/\/\/\/\//`, "////"},
		{`/\\/`, `\\`}, {`/\\\//`, `\\/`}, {`/\\\\\//`, `\\\\/`}, {`/\\\/\\/`, `\\/\\`}, {`/\\\/\//`, `\\//`}, {`/\.\//`, `\./`}, {`/\"\n\\/`, `\"\n\\`},
		{"/=/", "="}, {"/=a/", "=a"}, {"/==/", "=="}, {`/=\//`, "=/"}, {"/*/", "*"}, {"/ /", " "}, {"/\t/", "\t"}, {"/#/", "#"}, {"/\"/", `"`}, {"/[a-z]+(x|y){2,3}$/", "[a-z]+(x|y){2,3}$"}, {`/[\/]/`, "[/]"}, {"/\x00\x01\r\x7f\x80\xff/", "\x00\x01\r\x7f\x80\xff"}, {"/é/", "é"},
	} {
		shows(t, c.want, true, pattern(c.s))
		v := variable("v")
		shows(t, "v / "+c.want, false, expr(api.XBin, "/", v, pattern(c.s)))
		shows(t, c.want+" / "+c.want, false, expr(api.XBin, "/", pattern(c.s), pattern(c.s)))
		shows(t, "v /= "+c.want, false, expr(api.XAssign, "/=", v, pattern(c.s)))
		shows(t, "v ("+c.want+")", false, expr(api.XCat, "", v, pattern(c.s)))
		shows(t, c.want+" v", false, expr(api.XCat, "", pattern(c.s), v))
		shows(t, c.want+" ("+c.want+")", false, expr(api.XCat, "", pattern(c.s), pattern(c.s)))
		shows(t, "v !~ "+c.want, false, expr(api.XMatch, "!~", v, pattern(c.s)))
		shows(t, "getline < "+c.want, false, getline(2, pattern(c.s)))
		shows(t, "$"+c.want, true, expr(api.XField, "", pattern(c.s)))
		shows(t, "! "+c.want, false, expr(api.XNot, "", pattern(c.s)))
	}
	for b := range 256 {
		one := string([]byte{byte(b)})
		want := one
		switch b {
		case '\n', '\\':
			exprIsNot(t, api.ErrTree, pattern(one))
			continue
		case '/':
			want = `\/`
		}
		shows(t, "/"+want+"/", true, pattern(one))
		shows(t, "/=("+want+want+"/", true, pattern("=("+one+one))
		if b != '/' {
			shows(t, `/\`+one+`/`, true, pattern(`\`+one))
		}
	}
}

// P15.2: all short patterns of some bytes that may be.
func TestShortPatterns(t *testing.T) {
	list := []string{""}
	for range 6 {
		var longer []string
		for _, s := range list {
			e := pattern(s)
			p := items(rule(e, expr(api.XBin, "/", e, e)))
			if _, err := Expr(e); err == api.OK {
				held(t, p)
			} else {
				isNot(t, api.ErrTree, p)
			}
			for _, c := range []string{`\`, "/", "=", "a", "\n"} {
				longer = append(longer, s+c)
			}
		}
		list = longer
	}
}

// P15.1: names and words as they are.
func TestNames(t *testing.T) {
	for _, s := range []string{"x", "_", "Z", "a1", "_0_9", "NF", "Print", "lengths", "in_", "begin", "BEGINS", "func", "sin", "e5", "E5", "x1e5", "name_of_many_bytes", strings.Repeat("n", 200)} {
		v := variable("v")
		shows(t, s, true, variable(s))
		shows(t, s+"[v]", true, expr(api.XIndex, s, v))
		shows(t, s+"()", true, expr(api.XCall, s))
		shows(t, "v in "+s, false, expr(api.XIn, s, v))
		shows(t, "1 "+s, false, expr(api.XCat, "", number(1), variable(s)))
		shows(t, s+" (v || v)", false, expr(api.XCat, "", variable(s), expr(api.XOr, "", v, v)))
		writesStmts(t, "for ("+s+" in "+s+") {\n}\ndelete "+s+"\ndelete "+s+"["+s+"]\n",
			api.Stmt{Kind: api.SForIn, S: s, Exprs: names(s)}, api.Stmt{Kind: api.SDelete, S: s}, api.Stmt{Kind: api.SDelete, S: s, Exprs: names(s)})
		writes(t, "function "+s+"("+s+", a, "+s+") {\n}\n", items(api.Item{Kind: api.IFunc, Name: s, Params: []string{s, "a", s}}))
	}
}
