package numbers

import (
	"math"
	"math/big"
	"math/rand"
	"regexp"
	"strconv"
	"strings"
	"testing"

	"winnower/api"
)

// spaces are the bytes that the first layer calls Space.
const spaces = "\x20\x09\x0a\x0b\x0c\x0d"

// brief keeps what a failing test tells short.
func brief(s string) string {
	if len(s) < 100 {
		return strconv.Quote(s)
	}
	return strconv.Quote(s[:40]) + ".." + strconv.Quote(s[len(s)-40:]) + " of " + strconv.Itoa(len(s)) + " bytes"
}

func tell(bits uint64) string {
	return strconv.FormatFloat(math.Float64frombits(bits), 'g', -1, 64) + " (" + strconv.FormatUint(bits, 16) + ")"
}

// expect holds Prefix of a numeral that has nothing around it against bits.
func expect(t *testing.T, numeral string, bits uint64) {
	t.Helper()
	if got, n := Prefix(numeral); got != bits || n != len(numeral) {
		t.Errorf("Prefix(%s) = %s, %d bytes; want %s", brief(numeral), tell(got), n, tell(bits))
	}
}

func noughts(n int) string {
	return strings.Repeat("0", n)
}

// words are all texts of at most most bytes of letters.
func words(letters string, most int) []string {
	all := []string{""}
	for from := 0; most > 0; most-- {
		to := len(all)
		for _, w := range all[from:to] {
			for i := range len(letters) {
				all = append(all, w+letters[i:i+1])
			}
		}
		from = to
	}
	return all
}

// P2.1: the chapter's examples, and others of every form.
func TestPrefix(t *testing.T) {
	minusNought := math.Copysign(0, -1)
	for _, x := range []struct {
		s    string
		want float64
		n    int
	}{
		{"12abc", 12, 2}, {" -0.5e1x", -5, 7}, {"1e", 1, 1}, {"1e+", 1, 1}, {".5", 0.5, 2}, {"5.", 5, 2},
		{".", 0, 0}, {"+", 0, 0}, {"e1", 0, 0}, {"nan", 0, 0}, {"0x1", 0, 1},
		{"1e400", math.Inf(1), 5}, {"-1e400", math.Inf(-1), 6}, {"-1e-400", minusNought, 7}, {"1e-400", 0, 6},
		{"", 0, 0}, {" ", 0, 0}, {spaces, 0, 0}, {spaces + "7" + spaces, 7, 7}, {"\t\n-1 2", -1, 4},
		{"-", 0, 0}, {"+-1", 0, 0}, {"--1", 0, 0}, {"- 1", 0, 0}, {"+.", 0, 0}, {"-.e1", 0, 0}, {".e5", 0, 0}, {"..5", 0, 0},
		{"+5", 5, 2}, {"+.5", 0.5, 3}, {"-5.", -5, 3}, {"5..5", 5, 2}, {"1.2.3", 1.2, 3}, {".5.5", 0.5, 2},
		{"5.e1", 50, 4}, {"5.e", 5, 2}, {".5e1", 5, 4}, {".5E-1", 0.05, 5}, {"1E2", 100, 3}, {"1e2e3", 100, 3}, {"1e2.5", 100, 3},
		{"1e-", 1, 1}, {"1e+-1", 1, 1}, {"1e 1", 1, 1}, {"1e+a", 1, 1}, {"1 e1", 1, 1}, {"1e+01", 10, 5}, {"1e-01", 0.1, 5},
		{"1_000", 1, 1}, {"1,5", 1, 1}, {"1p1", 1, 1}, {"0x1p4", 0, 1}, {"0b1", 0, 1}, {"0o7", 0, 1}, {"010", 10, 3}, {"1d1", 1, 1}, {"1f", 1, 1},
		{"inf", 0, 0}, {"-inf", 0, 0}, {"+Infinity", 0, 0}, {"-NaN", 0, 0}, {"NaN", 0, 0}, {"i", 0, 0},
		{"-0", minusNought, 2}, {"+0", 0, 2}, {"-.0e9", minusNought, 5}, {"-0.", minusNought, 3}, {" -0x", minusNought, 3},
		{"9007199254740993", 9007199254740992, 16}, {"9007199254740995", 9007199254740996, 16},
	} {
		if bits, n := Prefix(x.s); bits != math.Float64bits(x.want) || n != x.n {
			t.Errorf("Prefix(%q) = %s, %d; want %v, %d", x.s, tell(bits), n, x.want, x.n)
		}
	}
}

// P2.1, P2.2: the longest numeral of all short texts, found by trying every
// length, and whether there is nothing but Space behind it.
func TestPrefixLongest(t *testing.T) {
	shape := regexp.MustCompile(`^[ \t\n\v\f\r]*([+-]?([0-9]+\.?[0-9]*|\.[0-9]+)([eE][+-]?[0-9]+)?)$`)
	looks := regexp.MustCompile(`^[ \t\n\v\f\r]*[+-]?([0-9]+\.?[0-9]*|\.[0-9]+)([eE][+-]?[0-9]+)?[ \t\n\v\f\r]*$`)
	all := append(words("+-.eE70 x", 5), words("-.e3", 7)...)
	all = append(all, words(".e5\n", 7)...)
	for _, s := range all {
		var bits uint64
		var end int
		for n := range len(s) + 1 {
			if m := shape.FindStringSubmatch(s[:n]); m != nil {
				bits, end = nearestOf(m[1]), n
			}
		}
		if got, n := Prefix(s); got != bits || n != end {
			t.Fatalf("Prefix(%q) = %s, %d; want %s, %d", s, tell(got), n, tell(bits), end)
		}
		if got, want := Looks(s), looks.MatchString(s); got != want {
			t.Fatalf("Looks(%q) = %v", s, got)
		}
	}
}

// P2.1, R7: every byte ahead of a numeral, behind it and inside it.
func TestPrefixBytes(t *testing.T) {
	one := math.Float64bits(1)
	for i := range 256 {
		b := string([]byte{byte(i)})
		bits, n := uint64(0), 0
		switch {
		case strings.Contains(spaces, b), b == "+":
			bits, n = one, 2
		case b == "-":
			bits, n = one|signBit, 2
		case b == ".":
			bits, n = math.Float64bits(0.1), 2
		case b >= "0" && b <= "9":
			bits, n = math.Float64bits(float64(10*(i-'0')+1)), 2
		}
		if got, m := Prefix(b + "1"); got != bits || m != n {
			t.Errorf("byte %d ahead of 1: %s, %d", i, tell(got), m)
		}
		bits, n = one, 1
		switch {
		case b >= "0" && b <= "9":
			bits, n = math.Float64bits(float64(10+i-'0')), 2
		case b == ".":
			n = 2
		}
		if got, m := Prefix("1" + b); got != bits || m != n {
			t.Errorf("byte %d behind 1: %s, %d", i, tell(got), m)
		}
		inner := "2" + b + "3"
		switch {
		case b == "e", b == "E":
			bits, n = math.Float64bits(2000), 3
		case b >= "0" && b <= "9":
			bits, n = math.Float64bits(float64(203+10*(i-'0'))), 3
		case b == ".":
			bits, n = math.Float64bits(2.3), 3
		default:
			bits, n = math.Float64bits(2), 1
		}
		if got, m := Prefix(inner); got != bits || m != n {
			t.Errorf("byte %d between 2 and 3: %s, %d", i, tell(got), m)
		}
	}
}

// P2.1, R1, R7: texts of any bytes, among them many that a numeral has.
func TestPrefixAnyBytes(t *testing.T) {
	r := rand.New(rand.NewSource(1))
	shape := regexp.MustCompile(`^[ \t\n\v\f\r]*([+-]?([0-9]+\.?[0-9]*|\.[0-9]+)([eE][+-]?[0-9]+)?)`)
	for range 20000 {
		b := make([]byte, r.Intn(24))
		for i := range b {
			if b[i] = byte(r.Intn(256)); r.Intn(8) > 0 {
				b[i] = "0123456789.eE+- \n"[r.Intn(17)]
			}
		}
		s := string(b)
		var bits uint64
		var end int
		// The shape's ways are tried from the left on, each as long as can be.
		if m := shape.FindStringSubmatch(s); m != nil {
			bits, end = nearestOf(m[1]), len(m[0])
		}
		if got, n := Prefix(s); got != bits || n != end {
			t.Fatalf("Prefix(%q) = %s, %d; want %s, %d", s, tell(got), n, tell(bits), end)
		}
	}
}

// P2.1: in the middle of two numbers the even one; just beside it the one that
// is nearer, however far behind the digit stands that says so.
func TestMiddles(t *testing.T) {
	for _, low := range append(edges(), someBits(rand.New(rand.NewSource(2)), 300)...) {
		text := middle(low)
		even, high := low+low&1, low+1
		expect(t, text, even)
		expect(t, "-"+text, even|signBit)
		expect(t, text+noughts(2000), even)
		expect(t, text+"1", high)
		expect(t, text+noughts(2000)+"1", high)
		expect(t, "-"+text+noughts(3000)+"00001", high|signBit)
		expect(t, lessened(text, 0), low)
		expect(t, lessened(text, 2000), low)
		expect(t, "-"+lessened(text, 900), low|signBit)
	}
}

// P2.1: the same middles, with a power of ten and without noughts.
func TestMiddlesByPowers(t *testing.T) {
	for _, low := range append(edges(), someBits(rand.New(rand.NewSource(3)), 300)...) {
		whole, part, _ := strings.Cut(middle(low), ".")
		digits := strings.TrimLeft(whole+part, "0")
		power := "e-" + strconv.Itoa(len(part))
		even, high := low+low&1, low+1
		expect(t, digits+power, even)
		expect(t, digits+".1"+power, high)
		expect(t, digits+"."+noughts(800)+"1"+power, high)
		expect(t, digits[:1]+"."+digits[1:]+"E"+strconv.Itoa(len(digits)-1-len(part)), even)
		expect(t, lessened(digits+".", 0)+power, low)
		expect(t, lessened(digits+".", 800)+power, low)
	}
}

// P2.1: a middle's digits may be as many as the package looks at, no more; the
// last of them, and one behind them, still counts.
func TestMostDigits(t *testing.T) {
	low := uint64(2*leastFull - 2)
	digits := strings.Trim(middle(low), "0.")
	if len(digits) != enough {
		t.Fatalf("the middle has %d digits", len(digits))
	}
	text := "." + digits + "e-307"
	expect(t, text, low)
	for _, gap := range []int{0, 1, 30, 31, 32, 33, 100, 1000} {
		expect(t, "."+digits+noughts(gap)+"1e-307", low+1)
		expect(t, "."+digits+noughts(gap)+"0e-307", low)
	}
	shorter := "." + digits[:enough-1]
	expect(t, shorter+"e-307", low)
	expect(t, shorter+string(digits[enough-1]+1)+"e-307", low+1)
	expect(t, shorter+string(digits[enough-1]-1)+strings.Repeat("9", 500)+"e-307", low)
}

// P2.1: a number's own digits, all of them or 17, say it.
func TestOwnDigits(t *testing.T) {
	for _, bits := range append(edges(), someBits(rand.New(rand.NewSource(4)), 3000)...) {
		f := math.Float64frombits(bits)
		expect(t, exactly(bits), bits)
		expect(t, strconv.FormatFloat(f, 'e', 16, 64), bits)
		expect(t, "-"+strconv.FormatFloat(f, 'e', 16, 64), bits|signBit)
		expect(t, strconv.FormatFloat(f, 'e', 1100, 64), bits)
	}
}

// P2.1: numerals of all lengths and powers.
func TestNearest(t *testing.T) {
	r := rand.New(rand.NewSource(5))
	for i := range 60000 {
		n := 1 + r.Intn(25)
		if i%50 == 0 {
			n = 1 + r.Intn(1600)
		}
		digits := someDigits(r, n)
		point := r.Intn(n + 1)
		s := []string{"", "-", "+"}[r.Intn(3)] + digits[:point] + "." + digits[point:]
		switch r.Intn(4) {
		case 0:
			s += "e" + strconv.Itoa(r.Intn(700)-350)
		case 1:
			s += "E" + strconv.Itoa(-r.Intn(80)-290-point)
		case 2:
			s += "e+" + strconv.Itoa(max(0, 312-point-r.Intn(10)))
		}
		expect(t, s, nearestOf(s))
	}
}

// P2.1: the ends: the greatest and the least numbers and what lies beyond them.
func TestEnds(t *testing.T) {
	whole, _, _ := strings.Cut(exactly(greatest), ".")
	limit, _, _ := strings.Cut(middle(greatest), ".")
	beyond := new(big.Int).Lsh(big.NewInt(1), 1024).String()
	half := strings.TrimRight(middle(0), "0")
	for _, x := range []struct {
		s    string
		bits uint64
	}{
		{whole, greatest}, {"-" + whole, greatest | signBit}, {"1.7976931348623157e308", greatest}, {"1.7976931348623158e308", greatest},
		{"1.7976931348623159e308", infinite}, {"1.8e308", infinite}, {"-1.8E+308", infinite | signBit}, {"1e309", infinite},
		{limit, infinite}, {limit + ".0", infinite}, {lessened(limit+".", 0), greatest}, {lessened(limit+".", 5000), greatest},
		{beyond, infinite}, {"-" + beyond, infinite | signBit}, {beyond + noughts(1000), infinite}, {strings.Repeat("9", 309), infinite},
		{strings.Repeat("9", 308), math.Float64bits(1e308)}, {strings.Repeat("9", 100000), infinite},
		{"4.9406564584124654e-324", least}, {"5e-324", least}, {"3e-324", least}, {"2.5e-324", least}, {"2.4e-324", 0}, {"-2.4e-324", signBit},
		{half, 0}, {"-" + half, signBit}, {half + "1", least}, {half + noughts(5000) + "1", least}, {"-" + half + "1", least | signBit},
		{lessened(half, 0), 0}, {lessened(half, 5000), 0},
		{"2.2250738585072014e-308", leastFull}, {"2.2250738585072011e-308", leastFull - 1}, {"2.2250738585072012e-308", leastFull},
		{"." + noughts(323) + "5", least}, {"." + noughts(323) + "2", 0}, {"." + noughts(100000) + "9", 0}, {"-." + noughts(100000) + "9", signBit},
	} {
		expect(t, x.s, x.bits)
	}
}

// P2.1: 0 has the numeral's sign, whatever its noughts and its power are.
func TestNoughts(t *testing.T) {
	for _, body := range []string{
		"0", "0.", ".0", "00.00", "0e0", "0e5", ".0E-5", "0.e+400", "0e-400", "0e99999", "0e-99999", "0e999999999999999999999999", "0e-999999999999999999999999",
		noughts(767), noughts(768), noughts(769), noughts(100000), noughts(1000) + ".", "." + noughts(1000), noughts(50000) + "." + noughts(50000),
		noughts(1000) + "e" + strings.Repeat("9", 1000), noughts(1000) + "e-" + strings.Repeat("9", 1000), "0e" + noughts(1000),
	} {
		expect(t, body, 0)
		expect(t, "+"+body, 0)
		expect(t, "-"+body, signBit)
	}
}

// P2.1: every power of ten that a number has, and those beyond.
func TestPowers(t *testing.T) {
	for power := -420; power <= 420; power++ {
		for _, digits := range []string{"1", "9", "2.5", ".3", "18446744073709551615", "18446744073709551616", "9999999999999999999", "99999999999999999999", "0.00000000000000000000123"} {
			s := digits + "e" + strconv.Itoa(power)
			expect(t, s, nearestOf(s))
		}
	}
}

// P2.1: powers that no int holds, those at which one would wrap round among
// them, and powers with noughts ahead.
func TestFarPowers(t *testing.T) {
	for _, power := range []string{
		"400", "9999", "10000", "65536", "99999", "100000", "2147483647", "2147483648", "4294967295", "4294967296", "4294967297",
		"4611686018427387903", "4611686018427387904", "4611686018427387905", "9223372036854775806", "9223372036854775807", "9223372036854775808", "9223372036854775809",
		"18446744073709551615", "18446744073709551616", "18446744073709551617", "1" + noughts(100), strings.Repeat("9", 10000), "1" + noughts(1000), noughts(1000) + "400",
	} {
		for _, digits := range []string{"1", "1.", "1." + noughts(1000), noughts(1000) + "1", "123456789." + someDigits(rand.New(rand.NewSource(6)), 1000)} {
			expect(t, digits+"e"+power, infinite)
			expect(t, "-"+digits+"E+"+power, infinite|signBit)
			expect(t, digits+"e-"+power, 0)
			expect(t, "-"+digits+"E-"+power, signBit)
		}
	}
	for _, n := range []int{0, 1, 10, 100, 760, 766, 767, 768, 1000, 100000} {
		expect(t, "1e"+noughts(n)+"5", math.Float64bits(100000))
		expect(t, "-1.5e+"+noughts(n)+"2", math.Float64bits(-150))
		expect(t, "1e-"+noughts(n)+"5", math.Float64bits(0.00001))
		expect(t, "7e-"+noughts(n)+"0", math.Float64bits(7))
		expect(t, "7e"+noughts(n)+"0", math.Float64bits(7))
	}
}

// P2.1, P2.3: noughts that a power of ten makes up for, also where it is
// greater than what the library's own numerals may have.
func TestNoughtsAgainstPowers(t *testing.T) {
	for _, n := range []int{1, 20, 300, 309, 700, 765, 766, 767, 768, 769, 1000, 9999, 10000, 10001, 12345, 99999, 100000, 100001, 200000, 1234567} {
		up, down := strconv.Itoa(n), "-"+strconv.Itoa(n)
		expect(t, "1"+noughts(n)+"e"+down, math.Float64bits(1))
		expect(t, "-1"+noughts(n)+".0e"+down, math.Float64bits(-1))
		expect(t, "."+noughts(n)+"25e"+up, math.Float64bits(0.25))
		expect(t, noughts(n)+"."+noughts(n)+"25e"+up, math.Float64bits(0.25))
		expect(t, "-0."+noughts(n)+"25e+00"+up, math.Float64bits(-0.25))
		expect(t, "12345"+noughts(n)+"."+noughts(n)+"e"+down, math.Float64bits(12345))
		expect(t, "1"+noughts(n)+"e-"+strconv.Itoa(n+308), math.Float64bits(1e-308))
		expect(t, "1"+noughts(n)+"e-"+strconv.Itoa(n+400), 0)
		expect(t, "."+noughts(n)+"1e"+strconv.Itoa(n+309), math.Float64bits(1e308))
		expect(t, "."+noughts(n)+"1e"+strconv.Itoa(n+310), infinite)
		expect(t, "."+noughts(n)+"5e"+strconv.Itoa(n-323), least)
	}
}

// P2.1, R1: numerals of very many digits, of every kind, end soon.
func TestManyDigits(t *testing.T) {
	r := rand.New(rand.NewSource(7))
	for _, n := range []int{767, 768, 769, 799, 800, 801, 1000, 5000, 20000} {
		digits := "7" + someDigits(r, n)
		for _, s := range []string{
			digits, "." + digits, "-" + digits + ".", digits[:n/2] + "." + digits[n/2:], digits + "e-" + strconv.Itoa(n),
			"+" + digits + "." + digits + "e-" + strconv.Itoa(n-300), "." + digits + "e-323", "." + digits + "e-300", "." + digits + "e309",
		} {
			expect(t, s, nearestOf(s))
		}
	}
	long := strings.Repeat("1234567890", 1<<20)
	expect(t, long, infinite)
	expect(t, "-."+long, math.Float64bits(-0.123456789012345678901234567890))
	expect(t, "1."+strings.Repeat("9", 1<<22), math.Float64bits(2))
	if _, n := Prefix(strings.Repeat(spaces, 1<<20)); n != 0 {
		t.Errorf("of Space alone: %d bytes", n)
	}
}

// P2.1: how many bytes are told: those of Space, too, and none of what stands
// behind, which does not change the number either.
func TestPrefixLength(t *testing.T) {
	for _, numeral := range []string{"7", "-0", "+.5", "5.", "1.25e-3", "." + strings.Repeat("123", 500), strings.Repeat("9", 700) + "e-0200", "1e" + noughts(900) + "1"} {
		want := nearestOf(numeral)
		for _, ahead := range []string{"", " ", spaces, strings.Repeat(spaces, 300)} {
			for _, behind := range []string{"", " ", "\x00", "x", "\xff", "-1", "+", " 5", "\n", "_1", ":", "/", "é"} {
				s := ahead + numeral + behind
				if got, n := Prefix(s); got != want || n != len(ahead)+len(numeral) {
					t.Errorf("Prefix(%s) = %s, %d; want %s, %d", brief(s), tell(got), n, tell(want), len(ahead)+len(numeral))
				}
			}
		}
	}
}

// P2.2: numerals, with every byte ahead and behind.
func TestLooks(t *testing.T) {
	for _, s := range []string{
		" 12\n", "0", "-0", "+1", "1.", ".1", "1.5", "1e5", "1E-5", "1.e+05", ".5e0", "\t\v\f\r\n 7", "7\t\v\f\r\n ", spaces + "-7.5e3" + spaces,
		strings.Repeat("9", 5000), "1e400", "1e-400", "1e" + strings.Repeat("9", 5000), noughts(5000) + "." + noughts(5000), "\n1",
	} {
		if !Looks(s) {
			t.Errorf("Looks(%s) = false", brief(s))
		}
	}
	for _, s := range []string{
		"12 a", "", " ", spaces, "a", "12a", "a12", "1 2", "1 .", "- 1", "+", "-", ".", "+.", "e", "e1", ".e1", "1e", "1e+", "1e-", "1e 1", "1 e1",
		"1..", "1.2.3", "1e1.5", "1e1e1", "--1", "+-1", "1-", "1+1", "nan", "NaN", "inf", "-inf", "Infinity", "0x1", "0x", "1_0", "1,0", "1\x00", "\x001", "\xff", "1\xff", "1\u00a0", "\u20031", "\u0661",
		strings.Repeat("9", 5000) + "x", strings.Repeat("9", 5000) + "e",
	} {
		if Looks(s) {
			t.Errorf("Looks(%s) = true", brief(s))
		}
	}
	for i := range 256 {
		b := string([]byte{byte(i)})
		space, digit := strings.Contains(spaces, b), i >= '0' && i <= '9'
		if got, want := Looks("1"+b), space || digit || b == "."; got != want {
			t.Errorf("Looks of 1 and byte %d = %v", i, got)
		}
		if got, want := Looks(b+"1"), space || digit || strings.Contains("+-.", b); got != want {
			t.Errorf("Looks of byte %d and 1 = %v", i, got)
		}
		if got := Looks("1 " + b); got != space {
			t.Errorf("Looks of 1, a space and byte %d = %v", i, got)
		}
		if got := Looks(b); got != digit {
			t.Errorf("Looks of byte %d = %v", i, got)
		}
	}
}

// P2.2: every kind of what is no number: both signs, the highest bit of the
// mantissa set or not, each bit alone, all, and many.
func TestFormNaN(t *testing.T) {
	if api.NaN != 0x7ff8000000000001 {
		t.Fatalf("api.NaN = %x", api.NaN)
	}
	r := rand.New(rand.NewSource(8))
	kinds := []uint64{1, 2, 1<<51 - 1, 1 << 51, 1<<51 + 1, 1<<52 - 1, 1<<52 - 2}
	for bit := range 52 {
		kinds = append(kinds, 1<<bit, 1<<52-1-1<<bit)
	}
	for range 2000 {
		kinds = append(kinds, 1+r.Uint64()%(1<<52-1))
	}
	for _, mantissa := range kinds {
		for _, sign := range []uint64{0, signBit} {
			if got := Form(sign | infinite | mantissa); got != api.NaN {
				t.Errorf("Form(%x) = %x", sign|infinite|mantissa, got)
			}
		}
	}
}

// P2.2: all other bits stay.
func TestFormNumbers(t *testing.T) {
	all := append(edges(), someBits(rand.New(rand.NewSource(9)), 5000)...)
	for _, bits := range append(all, infinite) {
		for _, sign := range []uint64{0, signBit} {
			if got := Form(sign | bits); got != sign|bits {
				t.Errorf("Form(%x) = %x", sign|bits, got)
			}
		}
	}
}

// P2.3: noughts ahead of the digits, and behind those of a point.
func TestNoughtsChangeNothing(t *testing.T) {
	r := rand.New(rand.NewSource(10))
	for range 2000 {
		digits := someDigits(r, 1+r.Intn(30))
		point := r.Intn(len(digits))
		power := []string{"", "e" + strconv.Itoa(r.Intn(600)-300), "E+7"}[r.Intn(3)]
		body := digits[:point] + "." + digits[point:]
		want, _ := Prefix(body + power)
		for _, n := range []int{1, 2, 19, 20, 500, 768, 2000} {
			expect(t, noughts(n)+body+power, want)
			expect(t, body+noughts(n)+power, want)
			expect(t, "-"+noughts(n)+body+noughts(n)+power, want|signBit)
		}
	}
}

// P2.3: a point that moves as the power of ten does.
func TestPointMoves(t *testing.T) {
	r := rand.New(rand.NewSource(11))
	for i := range 1000 {
		n := 1 + r.Intn(40)
		if i%20 == 0 {
			n = 1 + r.Intn(2000)
		}
		digits := someDigits(r, n)
		power := r.Intn(700) - 350
		want, _ := Prefix(digits + "e" + strconv.Itoa(power))
		for range 10 {
			point := r.Intn(n + 1)
			expect(t, digits[:point]+"."+digits[point:]+"e"+strconv.Itoa(power+n-point), want)
		}
		for _, more := range []int{1, 30, 800, 20000} {
			expect(t, digits+noughts(more)+"e"+strconv.Itoa(power-more), want)
			expect(t, "."+noughts(more)+digits+"e"+strconv.Itoa(power+n+more), want)
		}
	}
}

// P2.3: the one of two that says more has no lesser number.
func TestOrder(t *testing.T) {
	r := rand.New(rand.NewSource(12))
	number := func(s string) float64 {
		bits, _ := Prefix(s)
		return math.Float64frombits(bits)
	}
	for i := range 20000 {
		n := 1 + r.Intn(25)
		if i%50 == 0 {
			n = 700 + r.Intn(300)
		}
		less := someDigits(r, n)
		digits, _ := new(big.Int).SetString(less, 10)
		digits.Add(digits, big.NewInt(1+int64(r.Intn(3))))
		power := strconv.Itoa(r.Intn(700) - 350 - n)
		a, b := less+"e"+power, digits.String()+"e"+power
		if number(a) > number(b) || number("-"+a) < number("-"+b) || number("-"+a) > number(b) {
			t.Fatalf("%s and %s: %v, %v", brief(a), brief(b), number(a), number(b))
		}
	}
	last := 0.0
	for power := -1000; power <= 1000; power++ {
		for digit := 1; digit < 10; digit++ {
			f := number(strconv.Itoa(digit) + "e" + strconv.Itoa(power))
			if f < last {
				t.Fatalf("%de%d: %v below %v", digit, power, f, last)
			}
			last = f
		}
	}
}

// P2.3: a sign turns the highest bit alone.
func TestSign(t *testing.T) {
	r := rand.New(rand.NewSource(13))
	for range 5000 {
		body := someDigits(r, 1+r.Intn(20)) + "." + someDigits(r, r.Intn(20)) + "e" + strconv.Itoa(r.Intn(800)-400)
		bits, n := Prefix(body)
		if bits >= signBit || n != len(body) {
			t.Fatalf("Prefix(%q) = %s, %d", body, tell(bits), n)
		}
		expect(t, "+"+body, bits)
		expect(t, "-"+body, bits|signBit)
	}
}

// R2, R4: none beside none, and the same again, whatever was asked between.
func TestSameAgain(t *testing.T) {
	for _, s := range []string{"", "x", ".", "1e5", "-1e400", strings.Repeat("7", 2000) + "e-1999", "\xff1"} {
		bits, n := Prefix(s)
		if n == 0 && bits != 0 {
			t.Errorf("Prefix(%q) = %x, 0", s, bits)
		}
		looks := Looks(s)
		Prefix("-3.25")
		Looks("4 4")
		Form(api.NaN + 1)
		if again, m := Prefix(s); again != bits || m != n || Looks(s) != looks {
			t.Errorf("another answer for %s", brief(s))
		}
	}
}
