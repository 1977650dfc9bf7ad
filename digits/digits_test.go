package digits

import (
	"math"
	"math/big"
	"math/rand"
	"strconv"
	"strings"
	"testing"

	"winnower/api"
	"winnower/numbers"
)

var (
	inf         = math.Inf(1)
	minusInf    = math.Inf(-1)
	minusNought = math.Copysign(0, -1)
)

// brief keeps what a failing test tells short.
func brief(s string) string {
	if len(s) < 100 {
		return strconv.Quote(s)
	}
	return strconv.Quote(s[:40]) + ".." + strconv.Quote(s[len(s)-40:]) + " of " + strconv.Itoa(len(s)) + " bytes"
}

func tell(bits uint64) string {
	return strconv.FormatFloat(math.Float64frombits(bits), 'g', -1, 64) + " (" + strconv.FormatUint(bits, 16) + ")"
}

func same(t *testing.T, call string, bits uint64, places int, got, want string) {
	t.Helper()
	if got != want {
		t.Fatalf("%s(%s, %d) = %s; want %s", call, tell(bits), places, brief(got), brief(want))
	}
}

// holds holds all calls that take places against the chapter's words.
func holds(t *testing.T, bits uint64, places int) {
	t.Helper()
	same(t, "Fixed", bits, places, Fixed(bits, places), fixedOf(bits, places))
	same(t, "Exp", bits, places, Exp(bits, places), expOf(bits, places))
	same(t, "Short", bits, places, Short(bits, places, false), shortOf(bits, places, false))
	same(t, "Short, kept,", bits, places, Short(bits, places, true), shortOf(bits, places, true))
}

// notNumbers are kinds of what is no number: both signs, the highest bit of the
// mantissa set or not, each bit alone, all but one, and others.
func notNumbers() []uint64 {
	r := rand.New(rand.NewSource(1))
	mantissas := []uint64{api.NaN & (leastFull - 1), leastFull - 1}
	for bit := range 52 {
		mantissas = append(mantissas, 1<<bit, leastFull-1-1<<bit)
	}
	for range 200 {
		mantissas = append(mantissas, 1+r.Uint64()%(leastFull-1))
	}
	var all []uint64
	for _, m := range mantissas {
		all = append(all, infinite|m, signBit|infinite|m)
	}
	return all
}

// P3.1: the chapter's examples, and others of every kind.
func TestFixed(t *testing.T) {
	for _, x := range []struct {
		f      float64
		places int
		want   string
	}{
		{2.5, 0, "2"}, {3.5, 0, "4"}, {-0.125, 2, "-0.12"}, {1e22, 1, "10000000000000000000000.0"},
		{0, 0, "0"}, {0, 3, "0.000"}, {minusNought, 0, "-0"}, {minusNought, 2, "-0.00"},
		{0.5, 0, "0"}, {1.5, 0, "2"}, {-0.5, 0, "-0"}, {-1.5, 0, "-2"}, {-2.5, 0, "-2"},
		{0.375, 2, "0.38"}, {0.625, 2, "0.62"}, {0.25, 1, "0.2"}, {0.75, 1, "0.8"}, {-0.0625, 3, "-0.062"},
		{math.Nextafter(2.5, 3), 0, "3"}, {math.Nextafter(2.5, 2), 0, "2"}, {math.Nextafter(3.5, 3), 0, "3"}, {math.Nextafter(3.5, 4), 0, "4"},
		{9.5, 0, "10"}, {8.5, 0, "8"}, {99.5, 0, "100"}, {999.96, 1, "1000.0"}, {0.96, 1, "1.0"}, {-0.96, 1, "-1.0"}, {-9.996, 2, "-10.00"},
		{0.05, 1, "0.1"}, {0.15, 1, "0.1"}, {0.35, 1, "0.3"}, {1.005, 2, "1.00"}, {2.675, 2, "2.67"},
		{0.04, 1, "0.0"}, {-0.04, 1, "-0.0"}, {0.001, 0, "0"}, {1e-300, 5, "0.00000"}, {-1e-300, 0, "-0"},
		{0.1, 20, "0.10000000000000000555"}, {0.1, 55, "0.1000000000000000055511151231257827021181583404541015625"},
		{0.1, 57, "0.100000000000000005551115123125782702118158340454101562500"},
		{1, 5, "1.00000"}, {-7, 0, "-7"}, {10, 0, "10"}, {100, 1, "100.0"}, {123.456, 2, "123.46"}, {1e15, 2, "1000000000000000.00"},
		{1 << 53, 1, "9007199254740992.0"}, {1e23, 0, "99999999999999991611392"}, {0.3, 60, "0.299999999999999988897769753748434595763683319091796875000000"},
		{inf, 0, "inf"}, {inf, 6, "inf"}, {minusInf, 0, "-inf"}, {minusInf, 3, "-inf"}, {math.NaN(), 0, "nan"}, {-math.NaN(), 6, "nan"},
	} {
		same(t, "Fixed", bitsOf(x.f), x.places, Fixed(bitsOf(x.f), x.places), x.want)
	}
}

// P3.2: the chapter's examples, and others of every kind.
func TestExp(t *testing.T) {
	for _, x := range []struct {
		f      float64
		places int
		want   string
	}{
		{12345, 2, "1.23e+04"}, {9.996, 2, "1.00e+01"}, {0, 1, "0.0e+00"}, {5e-324, 0, "5e-324"},
		{0, 0, "0e+00"}, {minusNought, 0, "-0e+00"}, {minusNought, 3, "-0.000e+00"}, {1, 0, "1e+00"}, {-1, 2, "-1.00e+00"},
		{9.5, 0, "1e+01"}, {8.5, 0, "8e+00"}, {2.5, 0, "2e+00"}, {3.5, 0, "4e+00"}, {-2.5, 0, "-2e+00"}, {95, 0, "1e+02"}, {85, 0, "8e+01"}, {0.5, 0, "5e-01"},
		{125, 1, "1.2e+02"}, {135, 1, "1.4e+02"}, {145, 1, "1.4e+02"}, {1.25, 1, "1.2e+00"}, {1.75, 1, "1.8e+00"}, {1250000, 1, "1.2e+06"}, {1250001, 1, "1.3e+06"}, {1249999, 1, "1.2e+06"},
		{99.95, 2, "1.00e+02"}, {99.9375, 3, "9.994e+01"}, {99.96875, 5, "9.99688e+01"}, {0.99996, 3, "1.000e+00"}, {0.0999996, 4, "1.0000e-01"},
		{9.999999e99, 2, "1.00e+100"}, {9.999999e98, 2, "1.00e+99"}, {9.999999e-100, 2, "1.00e-99"}, {9.9999e-11, 1, "1.0e-10"}, {9.9999e-10, 1, "1.0e-09"}, {9.9999e9, 1, "1.0e+10"},
		{1e9, 0, "1e+09"}, {1e10, 0, "1e+10"}, {1e99, 0, "1e+99"}, {1e100, 0, "1e+100"}, {1e-9, 0, "1e-09"}, {1e-10, 0, "1e-10"}, {1e-99, 0, "1e-99"}, {1e-100, 0, "1e-100"},
		{math.MaxFloat64, 0, "2e+308"}, {math.MaxFloat64, 3, "1.798e+308"}, {math.MaxFloat64, 16, "1.7976931348623157e+308"}, {-math.MaxFloat64, 1, "-1.8e+308"},
		{5e-324, 3, "4.941e-324"}, {2.2250738585072014e-308, 16, "2.2250738585072014e-308"}, {1.5e-323, 0, "1e-323"}, {1.5e-323, 1, "1.5e-323"},
		{0.1, 17, "1.00000000000000006e-01"}, {0.1, 18, "1.000000000000000056e-01"}, {1e23, 22, "9.9999999999999991611392e+22"}, {1e23, 25, "9.9999999999999991611392000e+22"},
		{inf, 0, "inf"}, {inf, 6, "inf"}, {minusInf, 0, "-inf"}, {minusInf, 3, "-inf"}, {math.NaN(), 0, "nan"}, {-math.NaN(), 6, "nan"},
	} {
		same(t, "Exp", bitsOf(x.f), x.places, Exp(bitsOf(x.f), x.places), x.want)
	}
}

// P3.3: the chapter's examples, and others of every kind.
func TestShort(t *testing.T) {
	for _, x := range []struct {
		f          float64
		places     int
		bare, kept string
	}{
		{0.0001, 6, "0.0001", "0.000100000"}, {0.00001, 6, "1e-05", "1.00000e-05"}, {1e6, 6, "1e+06", "1.00000e+06"}, {100000, 6, "100000", "100000"}, {2, 6, "2", "2.00000"},
		{0, 6, "0", "0.00000"}, {minusNought, 6, "-0", "-0.00000"}, {0, 1, "0", "0"}, {0, 0, "0", "0"}, {minusNought, 0, "-0", "-0"},
		{0.1, 6, "0.1", "0.100000"}, {0.1, 17, "0.10000000000000001", "0.10000000000000001"}, {0.1, 16, "0.1", "0.1000000000000000"}, {1.0 / 3, 6, "0.333333", "0.333333"},
		{999999, 6, "999999", "999999"}, {999999.5, 6, "1e+06", "1.00000e+06"}, {999999.4, 6, "999999", "999999"}, {99999.95, 6, "99999.9", "99999.9"}, {99999.97, 6, "100000", "100000"},
		{1200000, 6, "1.2e+06", "1.20000e+06"}, {1200000, 7, "1200000", "1200000"}, {1200000, 8, "1200000", "1200000.0"}, {120, 3, "120", "120"}, {120, 2, "1.2e+02", "1.2e+02"}, {120, 1, "1e+02", "1e+02"}, {120, 0, "1e+02", "1e+02"},
		{9.5, 1, "1e+01", "1e+01"}, {8.5, 1, "8", "8"}, {8.5, 0, "8", "8"}, {8.5, -5, "8", "8"}, {9.5, 2, "9.5", "9.5"}, {9.96, 2, "10", "10"}, {9.96, 3, "9.96", "9.96"}, {10, 3, "10", "10.0"}, {10, 2, "10", "10"},
		{0.00099996, 4, "0.001", "0.001000"}, {0.0000999996, 6, "9.99996e-05", "9.99996e-05"}, {0.0000999996, 5, "0.0001", "0.00010000"}, {0.0000999996, 4, "0.0001", "0.0001000"}, {0.00009994, 3, "9.99e-05", "9.99e-05"}, {0.00009996, 3, "0.0001", "0.000100"},
		{-1.5, 6, "-1.5", "-1.50000"}, {-1.5e10, 6, "-1.5e+10", "-1.50000e+10"}, {-1e-7, 6, "-1e-07", "-1.00000e-07"}, {1e100, 3, "1e+100", "1.00e+100"}, {5e-324, 3, "4.94e-324", "4.94e-324"}, {5e-324, 1, "5e-324", "5e-324"},
		{100, 6, "100", "100.000"}, {100.5, 6, "100.5", "100.500"}, {1000000, 10, "1000000", "1000000.000"}, {10203.04, 10, "10203.04", "10203.04000"}, {1.0203e20, 10, "1.0203e+20", "1.020300000e+20"},
		{inf, 6, "inf", "inf"}, {minusInf, 0, "-inf", "-inf"}, {math.NaN(), 6, "nan", "nan"}, {-math.NaN(), 1, "nan", "nan"},
	} {
		same(t, "Short", bitsOf(x.f), x.places, Short(bitsOf(x.f), x.places, false), x.bare)
		same(t, "Short, kept,", bitsOf(x.f), x.places, Short(bitsOf(x.f), x.places, true), x.kept)
	}
}

// P3.1 to P3.3: all the edges, both signs, at all kinds of places; also where
// a number lies in the middle, one place ahead of its last digit.
func TestEdges(t *testing.T) {
	for _, size := range edges() {
		all, behind := lengths(size)
		for _, places := range []int{-1, 0, 1, 2, 3, 5, 6, 14, 15, 16, 17, 18, 19, 25, behind - 2, behind - 1, behind, behind + 1, all - 3, all - 2, all - 1, all, all + 1} {
			holds(t, size, places)
			holds(t, size|signBit, places)
		}
	}
}

// P3.1 to P3.3: the powers of ten, what lies nearest to them, and where nines
// make ten of a digit.
func TestPowersOfTen(t *testing.T) {
	r := rand.New(rand.NewSource(2))
	for _, bits := range powersOfTen(-30, 30) {
		for places := range 20 {
			holds(t, bits|r.Uint64()&signBit, places)
		}
	}
	for _, bits := range powersOfTen(-324, 308) {
		holds(t, bits|r.Uint64()&signBit, r.Intn(20))
	}
}

// P3.1, P3.2: numbers of few digits, of which many lie in a middle of two, and
// the numbers just beside them.
func TestMiddles(t *testing.T) {
	r := rand.New(rand.NewSource(3))
	for _, bits := range briefNumbers(r, 1500) {
		all, behind := lengths(bits)
		for _, places := range []int{r.Intn(12), behind - 1, all - 2} {
			holds(t, bits, places)
			if size := bits &^ signBit; size > 0 {
				holds(t, bits-1, places)
				holds(t, bits+1, places)
			}
		}
	}
	for n := range 3000 {
		for places := range 4 {
			holds(t, bitsOf(float64(n)), places)
			holds(t, bitsOf(float64(n)/16), places)
		}
	}
}

// P3.1 to P3.3: numbers of all sizes at places up to where all digits are told.
func TestAllSizes(t *testing.T) {
	r := rand.New(rand.NewSource(4))
	for _, bits := range someBits(r, 4000) {
		holds(t, bits, r.Intn(20))
		holds(t, bits, r.Intn(400))
	}
	for _, bits := range someBits(r, 400) {
		holds(t, bits, r.Intn(1200))
	}
}

// P3.1: the first digits of the least numbers, around the places where they
// begin to say something.
func TestLeast(t *testing.T) {
	r := rand.New(rand.NewSource(5))
	for _, bits := range []uint64{least, 2, 3, 100, 1 << 20, 1 << 40, leastFull - 1, leastFull, leastFull + 1, leastFull | r.Uint64()%leastFull} {
		for places := 295; places <= 345; places++ {
			holds(t, bits, places)
		}
	}
}

// P3.1 to P3.3: places below 0 count as 0, places above the limit as it.
func TestPlaces(t *testing.T) {
	if api.MaxWidth != maxWidth {
		t.Fatalf("api.MaxWidth = %d", api.MaxWidth)
	}
	all := []float64{0, minusNought, 1, -2.5, 0.1, 9.5, 123.456, 1e22, 1e-5, 0.0001, 0.00012, 1e300, -1e-300, math.MaxFloat64, 5e-324, inf, minusInf, math.NaN()}
	for _, f := range all {
		for _, places := range []int{math.MinInt, math.MinInt + 1, math.MinInt32, -4097, -4096, -7, -2, -1, 0, 1, 1073, 1074, 1075, 4090, 4091, 4092, 4093, 4094, 4095, 4096, 4097, 4098, 4099, 4100, 5000, math.MaxInt32, math.MaxInt - 1, math.MaxInt} {
			holds(t, bitsOf(f), places)
		}
	}
	for _, places := range []int{4096, 4097, math.MaxInt} {
		same(t, "Fixed", bitsOf(1), places, Fixed(bitsOf(1), places), "1."+noughts(4096))
		same(t, "Exp", bitsOf(-1), places, Exp(bitsOf(-1), places), "-1."+noughts(4096)+"e+00")
		same(t, "Short, kept,", bitsOf(1), places, Short(bitsOf(1), places, true), "1."+noughts(4095))
		same(t, "Short", bitsOf(1), places, Short(bitsOf(1), places, false), "1")
	}
	for _, places := range []int{math.MinInt, -1, 0} {
		same(t, "Fixed", bitsOf(2.5), places, Fixed(bitsOf(2.5), places), "2")
		same(t, "Exp", bitsOf(25), places, Exp(bitsOf(25), places), "2e+01")
		same(t, "Short", bitsOf(25), places, Short(bitsOf(25), places, true), "2e+01")
	}
}

// P3.3: Fixed has no more places than the limit, also where Short would need
// some more to tell so many digits of a number below 1.
func TestShortAtTheLimit(t *testing.T) {
	eighth, part := bitsOf(0.125), bitsOf(1.0/4096)
	same(t, "Short, kept,", eighth, 4096, Short(eighth, 4096, true), "0.125"+noughts(4093))
	same(t, "Short, kept,", eighth, 4095, Short(eighth, 4095, true), "0.125"+noughts(4092))
	same(t, "Short, kept,", part, 4096, Short(part, 4096, true), "0.000244140625"+noughts(4084))
	same(t, "Short, kept,", part, 4092, Short(part, 4092, true), "0.000244140625"+noughts(4083))
	same(t, "Short", part, 4096, Short(part, 4096, false), "0.000244140625")
}

// P3.3: the powers at which Short turns from Fixed to Exp, at both ends, with
// all counts of digits, by rounding, too.
func TestShortTurns(t *testing.T) {
	for p := 1; p <= 25; p++ {
		for _, power := range []int{-6, -5, -4, -3, -1, 0, 1, p - 2, p - 1, p, p + 1} {
			tail := "e" + strconv.Itoa(power)
			for _, numeral := range []string{"1" + tail, "1.5" + tail, "9" + tail, "9." + strings.Repeat("9", p) + tail, "9." + strings.Repeat("9", p-1) + "4" + tail, "1." + strings.Repeat("2", p) + tail} {
				f, _ := strconv.ParseFloat(numeral, 64)
				holds(t, bitsOf(f), p)
				holds(t, bitsOf(-f), p)
			}
		}
	}
	for p := 1; p <= 15; p++ {
		for _, x := range []struct {
			power int
			fixed bool
		}{{-6, false}, {-5, false}, {-4, true}, {-1, true}, {0, true}, {p - 1, true}, {p, false}, {p + 1, false}} {
			f, _ := strconv.ParseFloat("1e"+strconv.Itoa(x.power), 64)
			for _, keep := range []bool{false, true} {
				if text := Short(bitsOf(f), p, keep); strings.Contains(text, "e") == x.fixed {
					t.Errorf("Short(%v, %d, %v) = %q", f, p, keep, text)
				}
			}
		}
	}
}

// P3.1 to P3.4: what is no number, of every kind, is nan; what is infinite has
// its sign.
func TestNoDigits(t *testing.T) {
	want := map[uint64]string{infinite: "inf", infinite | signBit: "-inf"}
	for _, bits := range notNumbers() {
		want[bits] = "nan"
	}
	for bits, name := range want {
		for _, places := range []int{math.MinInt, -1, 0, 1, 6, 4096, 4097, math.MaxInt} {
			same(t, "Fixed", bits, places, Fixed(bits, places), name)
			same(t, "Exp", bits, places, Exp(bits, places), name)
			same(t, "Short", bits, places, Short(bits, places, false), name)
			same(t, "Short, kept,", bits, places, Short(bits, places, true), name)
		}
		if text, ok := Whole(bits); text != "" || ok {
			t.Errorf("Whole(%s) = %q, %v", tell(bits), text, ok)
		}
	}
}

// P3.4: the chapter's examples, and others of every kind.
func TestWhole(t *testing.T) {
	below, above := math.Nextafter(1e16, 0), math.Nextafter(1e16, inf)
	for _, x := range []struct {
		f    float64
		want string
	}{
		{-7, "-7"}, {0, "0"}, {minusNought, "0"}, {1, "1"}, {-1, "-1"}, {10, "10"}, {1000, "1000"}, {-120, "-120"}, {1e6, "1000000"}, {1e15, "1000000000000000"}, {-1e15, "-1000000000000000"},
		{1<<31 - 1, "2147483647"}, {1 << 31, "2147483648"}, {-1 << 31, "-2147483648"}, {1 << 32, "4294967296"}, {1<<53 - 1, "9007199254740991"}, {1 << 53, "9007199254740992"}, {1<<53 + 2, "9007199254740994"}, {-1<<53 - 2, "-9007199254740994"},
		{below, "9999999999999998"}, {-below, "-9999999999999998"},
	} {
		if text, ok := Whole(bitsOf(x.f)); text != x.want || !ok {
			t.Errorf("Whole(%v) = %q, %v", x.f, text, ok)
		}
	}
	for _, f := range []float64{
		0.5, -0.5, 1e16, -1e16, above, -above, 1e17, -1e17, 1e22, 1 << 63, -1 << 63, 1 << 64, 1e300, -1e300, math.MaxFloat64, 5e-324, -5e-324, 1e-300, 0.1, -0.1, 1.5, 2.5, math.Pi, 1e15 + 0.5, -1e15 - 0.5,
		1<<52 - 0.5, 1<<51 + 0.5, math.Nextafter(1, 0), math.Nextafter(1, 2), math.Nextafter(-3, 0), inf, minusInf, math.NaN(),
	} {
		if text, ok := Whole(bitsOf(f)); text != "" || ok {
			t.Errorf("Whole(%v) = %q, %v", f, text, ok)
		}
	}
}

// P3.4: whole numbers of all sizes, those beside them, and others.
func TestWholeAllSizes(t *testing.T) {
	r := rand.New(rand.NewSource(6))
	all := append(edges(), someBits(r, 2000)...)
	all = append(all, briefNumbers(r, 2000)...)
	for shift := range 64 {
		f := math.Trunc(math.Ldexp(0.5+r.Float64()/2, shift))
		all = append(all, bitsOf(f), bitsOf(f)+1, bitsOf(f+0.5))
	}
	for power := range 20 {
		b := bitsOf(math.Pow(10, float64(power)))
		all = append(all, b-1, b, b+1)
	}
	for _, bits := range all {
		for _, sign := range []uint64{0, signBit} {
			text, ok := Whole(bits ^ sign)
			if want, wantOk := wholeOf(bits ^ sign); text != want || ok != wantOk {
				t.Fatalf("Whole(%s) = %q, %v; want %q, %v", tell(bits^sign), text, ok, want, wantOk)
			}
		}
	}
}

// readsAs holds what numbers reads in a text against bits.
func readsAs(t *testing.T, text string, bits uint64) {
	t.Helper()
	if got, n := numbers.Prefix(text); got != bits || n != len(text) {
		t.Fatalf("%s is read as %s, %d bytes; want %s", brief(text), tell(got), n, tell(bits))
	}
}

// P3.5: what Exp tells with 16 places, and with more, is read as the number.
func TestExpIsReadBack(t *testing.T) {
	r := rand.New(rand.NewSource(7))
	all := append(edges(), someBits(r, 20000)...)
	all = append(all, powersOfTen(-324, 308)...)
	for _, bits := range append(all, signBit, signBit|greatest, signBit|least) {
		readsAs(t, Exp(bits, 16), bits)
		readsAs(t, Exp(bits, 17+r.Intn(30)), bits)
	}
	for _, bits := range append(edges(), signBit) {
		readsAs(t, Exp(bits, 4096), bits)
	}
}

// P3.5: what Whole tells is read as the number, but for the sign of 0.
func TestWholeIsReadBack(t *testing.T) {
	r := rand.New(rand.NewSource(8))
	for range 20000 {
		f := math.Trunc(math.Ldexp(2*r.Float64()-1, r.Intn(54)))
		text, ok := Whole(bitsOf(f))
		if !ok {
			t.Fatalf("Whole(%v): none", f)
		}
		// To add 0 is to take the sign of 0 off.
		readsAs(t, text, bitsOf(f+0))
	}
	for _, bits := range []uint64{0, signBit} {
		text, _ := Whole(bits)
		readsAs(t, text, 0)
	}
}

// P3.5: with as many places as a number has digits, or more, Fixed says it
// exactly; with one less it does not.
func TestFixedSaysExactly(t *testing.T) {
	r := rand.New(rand.NewSource(9))
	for _, bits := range append(edges(), someBits(r, 500)...) {
		worth := new(big.Rat).SetFloat64(math.Float64frombits(bits))
		says := func(places int) bool {
			text := Fixed(bits, places)
			told, ok := new(big.Rat).SetString(text)
			if !ok {
				t.Fatalf("Fixed(%s, %d) = %s", tell(bits), places, brief(text))
			}
			return told.Cmp(worth) == 0
		}
		_, behind := lengths(bits)
		for _, places := range []int{behind, behind + 1, most, most + 1, 4096, math.MaxInt} {
			if !says(places) {
				t.Fatalf("Fixed(%s, %d) says another number", tell(bits), places)
			}
		}
		if behind > 0 && says(behind-1) {
			t.Fatalf("Fixed(%s, %d) says all", tell(bits), behind-1)
		}
		readsAs(t, Fixed(bits, most), bits)
	}
}

// R4: the same again, whatever was asked between.
func TestSameAgain(t *testing.T) {
	for _, bits := range []uint64{0, signBit, bitsOf(0.1), bitsOf(-12345.678), greatest, infinite, api.NaN} {
		fixed, exp, short := Fixed(bits, 30), Exp(bits, 30), Short(bits, 30, false)
		whole, ok := Whole(bits)
		Fixed(bitsOf(7.5), 4096)
		Exp(bitsOf(-3), -1)
		Short(bitsOf(1e9), 3, true)
		Whole(bitsOf(4))
		again, okAgain := Whole(bits)
		if Fixed(bits, 30) != fixed || Exp(bits, 30) != exp || Short(bits, 30, false) != short || again != whole || okAgain != ok {
			t.Errorf("another answer for %s", tell(bits))
		}
	}
}
