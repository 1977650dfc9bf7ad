package numbers

import (
	"math"
	"math/big"
	"math/rand"
	"strings"
)

// What the tests hold the package against: a numeral's worth and its nearest
// number by whole numbers without an end, as the chapter's words say them.

const (
	signBit  = 1 << 63
	infinite = 0x7ff << 52
	greatest = infinite - 1
	least    = 1
	// leastFull is the least number that has all its bits.
	leastFull = 1 << 52
)

// worth is a size: digits times ten to a power.
type worth struct {
	digits *big.Int
	tens   int64
}

// read tells a numeral's sign and size; a power of ten beyond all reason is
// left at one that is still beyond what the tests' longest numerals reach.
func read(numeral string) (minus bool, size worth) {
	minus = strings.HasPrefix(numeral, "-")
	body := strings.ToLower(strings.TrimLeft(numeral, "+-"))
	mantissa, power, hasPower := strings.Cut(body, "e")
	whole, part, _ := strings.Cut(mantissa, ".")
	digits, ok := new(big.Int).SetString(whole+part, 10)
	tens := new(big.Int)
	if hasPower {
		_, okPower := tens.SetString(power, 10)
		ok = ok && okPower
	}
	if !ok {
		panic("no numeral: " + numeral)
	}
	reach := big.NewInt(1 << 50)
	if tens.CmpAbs(reach) > 0 {
		tens.Mul(reach, big.NewInt(int64(tens.Sign())))
	}
	return minus, worth{digits, tens.Int64() - int64(len(part))}
}

// fraction tells w in units of the least number: over / under.
func (w worth) fraction() (over, under *big.Int) {
	over = new(big.Int).Lsh(w.digits, 1074)
	under = big.NewInt(1)
	power := new(big.Int).Exp(big.NewInt(10), big.NewInt(max(w.tens, -w.tens)), nil)
	if w.tens < 0 {
		return over, power
	}
	return over.Mul(over, power), under
}

// units tells what a number not below 0 is worth, in units of the least one;
// of the infinite one it is that of 2^1024.
func units(bits uint64) *big.Int {
	if bits < leastFull {
		return new(big.Int).SetUint64(bits)
	}
	exponent, mantissa := bits>>52, bits&(leastFull-1)|leastFull
	u := new(big.Int).SetUint64(mantissa)
	return u.Lsh(u, uint(exponent-1))
}

// below tells the greatest number that is not above w, which is below 2^1024.
func below(w worth) uint64 {
	over, under := w.fraction()
	u := new(big.Int).Quo(over, under)
	shift := uint(max(0, u.BitLen()-53))
	return uint64(shift)<<52 + u.Rsh(u, shift).Uint64()
}

// nearestOf tells the bits of a numeral's nearest number.
func nearestOf(numeral string) uint64 {
	minus, w := read(numeral)
	bits := nearestSize(w)
	if minus {
		bits |= signBit
	}
	return bits
}

func nearestSize(w worth) uint64 {
	if w.digits.Sign() == 0 {
		return 0
	}
	switch places := int64(len(w.digits.String())) + w.tens; {
	case places > 400:
		return infinite
	case places < -400:
		return 0
	}
	low := below(w)
	if low >= infinite {
		return infinite
	}
	over, under := w.fraction()
	middle := new(big.Int).Add(units(low), units(low+1))
	switch c := over.Lsh(over, 1).Cmp(middle.Mul(middle, under)); {
	case c < 0:
		return low
	case c > 0:
		return low + 1
	}
	return low + low&1
}

// written tells so many halves of the least number as a numeral, exactly: it
// is so many times 5^1075, with the point 1075 places ahead of its end.
func written(halves *big.Int) string {
	fives := new(big.Int).Exp(big.NewInt(5), big.NewInt(1075), nil)
	digits := fives.Mul(fives, halves).String()
	digits = strings.Repeat("0", max(0, 1076-len(digits))) + digits
	return digits[:len(digits)-1075] + "." + digits[len(digits)-1075:]
}

// exactly tells a number not below 0 as a numeral.
func exactly(bits uint64) string {
	u := units(bits)
	return written(u.Lsh(u, 1))
}

// middle tells as a numeral what lies in the middle of a number and the next.
func middle(bits uint64) string {
	return written(new(big.Int).Add(units(bits), units(bits+1)))
}

// lessened tells a numeral without a power that says a very little less.
func lessened(numeral string, places int) string {
	whole, part, _ := strings.Cut(strings.TrimRight(numeral, "0"), ".")
	digits, _ := new(big.Int).SetString(whole+part, 10)
	digits.Sub(digits, big.NewInt(1))
	text := digits.String()
	text = strings.Repeat("0", max(0, len(whole)+len(part)-len(text))) + text
	return text[:len(whole)] + "." + text[len(whole):] + strings.Repeat("9", places)
}

// edges are numbers not below 0 and finite at which something changes.
func edges() []uint64 {
	all := []uint64{
		0, least, 2, 3, 4, leastFull - 2, leastFull - 1, leastFull, leastFull + 1, leastFull + 2,
		2*leastFull - 1, 2 * leastFull, 2*leastFull + 1, greatest - 2, greatest - 1, greatest,
	}
	for _, f := range []float64{
		0.1, 0.3, 0.5, 1 - 1.0/(1<<53), 1, math.Nextafter(1, 2), 2, 3, 5, 10, 1e15, 1e16, 1e22, 1e23, 1e100, 1e-5, 1e-300, 1e300,
		1<<53 - 1, 1 << 53, 1<<53 + 2, 1 << 63, 1 << 64, 2.2250738585072011e-308, math.Pi,
	} {
		all = append(all, math.Float64bits(f))
	}
	for exponent := uint64(0); exponent < 0x7ff; exponent += 37 {
		all = append(all, exponent<<52, exponent<<52+1, exponent<<52+leastFull-1)
	}
	return all
}

// someBits are numbers not below 0 and finite, of all sizes.
func someBits(r *rand.Rand, n int) []uint64 {
	all := make([]uint64, n)
	for i := range all {
		all[i] = r.Uint64() % infinite
		if i%8 == 0 {
			all[i] = r.Uint64() >> uint(12+r.Intn(52))
		}
	}
	return all
}

// someDigits are n digits, now and then all of one kind behind the first ones.
func someDigits(r *rand.Rand, n int) string {
	b := make([]byte, n)
	for i := range b {
		b[i] = byte('0' + r.Intn(10))
	}
	if r.Intn(4) == 0 {
		same := byte("059"[r.Intn(3)])
		for i := r.Intn(n + 1); i < n; i++ {
			b[i] = same
		}
	}
	return string(b)
}
