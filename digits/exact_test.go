package digits

import (
	"math"
	"math/big"
	"math/rand"
	"strconv"
	"strings"
)

// What the tests hold the package against: a number's worth by whole numbers
// without an end, rounded and written down as the chapter's words say it.

const (
	signBit  = 1 << 63
	infinite = 0x7ff << 52
	greatest = infinite - 1
	least    = 1
	// leastFull is the least number that has all its bits.
	leastFull = 1 << 52
	// most is how many digits behind the point a number can have.
	most = 1074
	// maxWidth is the chapter's limit of places, written out.
	maxWidth = 4096
)

func bitsOf(f float64) uint64 {
	return math.Float64bits(f)
}

func raised(base int64, power int) *big.Int {
	return new(big.Int).Exp(big.NewInt(base), big.NewInt(int64(power)), nil)
}

// fives is what makes a whole number of any number's worth, beside powers of 2.
var fives = raised(5, most)

// tens are the powers of ten that the tests most often ask for.
var tens = func() (all [most + 400]*big.Int) {
	for power := range all {
		all[power] = raised(10, power)
	}
	return all
}()

// ten tells a power of ten, which nobody may change.
func ten(power int) *big.Int {
	if power < len(tens) {
		return tens[power]
	}
	return raised(10, power)
}

// exact tells a finite number's size, times 10^most: that is a whole number.
func exact(bits uint64) *big.Int {
	size := bits &^ signBit
	n := new(big.Int).SetUint64(size)
	if size >= leastFull {
		n.SetUint64(size&(leastFull-1) | leastFull)
		n.Lsh(n, uint(size>>52-1))
	}
	return n.Mul(n, fives)
}

// shifted tells n divided by ten to a power (which may be below 0), rounded to
// a whole number, of two to the even one.
func shifted(n *big.Int, power int) *big.Int {
	if power <= 0 {
		return new(big.Int).Mul(n, ten(-power))
	}
	under := ten(power)
	q, r := new(big.Int).QuoRem(n, under, new(big.Int))
	switch c := r.Lsh(r, 1).Cmp(under); {
	case c > 0, c == 0 && q.Bit(0) == 1:
		q.Add(q, big.NewInt(1))
	}
	return q
}

func clamped(places int) int {
	if places < 0 {
		return 0
	}
	if places > maxWidth {
		return maxWidth
	}
	return places
}

func minusOf(bits uint64) string {
	if bits >= signBit {
		return "-"
	}
	return ""
}

// oddName tells what stands for a number without digits.
func oddName(bits uint64) (string, bool) {
	switch size := bits &^ signBit; {
	case size > infinite:
		return "nan", true
	case size == infinite:
		return minusOf(bits) + "inf", true
	}
	return "", false
}

// pointed puts a point so many places ahead of the end of n's digits.
func pointed(n *big.Int, places int) string {
	text := n.String()
	text = noughts(places+1-len(text)) + text
	if places == 0 {
		return text
	}
	return text[:len(text)-places] + "." + text[len(text)-places:]
}

func noughts(n int) string {
	return strings.Repeat("0", max(0, n))
}

func fixedOf(bits uint64, places int) string {
	if name, odd := oddName(bits); odd {
		return name
	}
	places = clamped(places)
	return minusOf(bits) + pointed(shifted(exact(bits), most-places), places)
}

// expParts tells the digits of Exp, all of them as one number, and the power.
func expParts(bits uint64, places int) (*big.Int, int) {
	n := exact(bits)
	if n.Sign() == 0 {
		return n, 0
	}
	power := len(n.String()) - 1 - most
	digits := shifted(n, most+power-places)
	if digits.Cmp(ten(places+1)) == 0 {
		return ten(places), power + 1
	}
	return digits, power
}

func expOf(bits uint64, places int) string {
	if name, odd := oddName(bits); odd {
		return name
	}
	places = clamped(places)
	digits, power := expParts(bits, places)
	sign, size := "+", strconv.Itoa(power)
	if power < 0 {
		sign, size = "-", strconv.Itoa(-power)
	}
	return minusOf(bits) + pointed(digits, places) + "e" + sign + noughts(2-len(size)) + size
}

func shortOf(bits uint64, places int, keep bool) string {
	if name, odd := oddName(bits); odd {
		return name
	}
	p := clamped(places)
	if p == 0 {
		p = 1
	}
	text := expOf(bits, p-1)
	if _, x := expParts(bits, p-1); x >= -4 && x <= p-1 {
		text = fixedOf(bits, p-1-x)
	}
	digits, power, hasPower := strings.Cut(text, "e")
	if strings.Contains(digits, ".") && !keep {
		digits = strings.TrimSuffix(strings.TrimRight(digits, "0"), ".")
	}
	if hasPower {
		return digits + "e" + power
	}
	return digits
}

func wholeOf(bits uint64) (string, bool) {
	if _, odd := oddName(bits); odd {
		return "", false
	}
	whole, part := new(big.Int).QuoRem(exact(bits), ten(most), new(big.Int))
	if part.Sign() != 0 || whole.Cmp(ten(16)) >= 0 {
		return "", false
	}
	if whole.Sign() == 0 {
		return "0", true
	}
	return minusOf(bits) + whole.String(), true
}

// lengths tells how many digits a number has, from the first one that is not 0
// to the last such one, and how many of its digits stand behind the point.
func lengths(bits uint64) (all, behind int) {
	if bits&^signBit == 0 {
		return 0, 0
	}
	text := exact(bits).String()
	bare := strings.TrimRight(text, "0")
	return len(bare), max(0, most-(len(text)-len(bare)))
}

// edges are finite numbers not below 0 at which something changes.
func edges() []uint64 {
	all := []uint64{
		0, least, 2, 3, 4, leastFull - 2, leastFull - 1, leastFull, leastFull + 1, 2*leastFull - 1, 2 * leastFull,
		greatest - 2, greatest - 1, greatest,
	}
	for _, f := range []float64{
		0.1, 0.2, 0.3, 0.5, 1, 2, 3, 5, 7, 9, 0.25, 0.75, 1.5, 2.5, 3.5, 9.5, 99.5, 0.05, 0.95, 0.995, 9.996, 9.9995, 999999.5, 9999995,
		1.0 / 3, 2.0 / 3, math.Pi, math.E, 123456789, 1<<53 - 1, 1 << 53, 1<<53 + 2, 1 << 63, 1 << 64, 1e15 + 0.5, 1e16 - 2, 1e17, 5e-5,
	} {
		all = append(all, bitsOf(f))
	}
	for exponent := uint64(0); exponent < 0x7ff; exponent += 41 {
		all = append(all, exponent<<52, exponent<<52+1, exponent<<52+leastFull-1)
	}
	return all
}

// powersOfTen are the numbers nearest to the powers of ten and to the middles
// of two of them, and those beside.
func powersOfTen(from, to int) []uint64 {
	var all []uint64
	for power := from; power <= to; power++ {
		for _, digits := range []string{"1", "5", "9.5", "9.95", "9.9999995", "9.9999999999999995"} {
			f, _ := strconv.ParseFloat(digits+"e"+strconv.Itoa(power), 64)
			b := bitsOf(f)
			if b > 0 && b < greatest {
				all = append(all, b-1, b, b+1)
			}
		}
	}
	return all
}

// someBits are finite numbers, of all sizes and both signs.
func someBits(r *rand.Rand, n int) []uint64 {
	all := make([]uint64, n)
	for i := range all {
		all[i] = r.Uint64() % infinite
		switch i % 4 {
		case 1:
			all[i] = bitsOf(math.Ldexp(r.Float64(), r.Intn(120)-60))
		case 2:
			all[i] = r.Uint64() >> uint(12+r.Intn(52))
		}
		all[i] |= r.Uint64() & signBit
	}
	return all
}

// briefNumbers are numbers of few digits: whole ones below a power of ten and
// of 2, divided by another power of 2, so that they end in a 5 behind the point
// and lie in a middle at one place less.
func briefNumbers(r *rand.Rand, n int) []uint64 {
	all := make([]uint64, n)
	for i := range all {
		all[i] = bitsOf(math.Ldexp(float64(1+r.Intn(1<<uint(1+r.Intn(22)))), -r.Intn(16)))
		if i%3 == 0 {
			all[i] = bitsOf(float64(r.Intn(100000)) * math.Pow(10, float64(r.Intn(18))))
		}
		all[i] |= r.Uint64() & signBit
	}
	return all
}
