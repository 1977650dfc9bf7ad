package host

import (
	"math"
	"math/big"
	"testing"

	"winnower/api"
	"winnower/cells"
)

// someNumbers are of all sorts, and their like below 0.
func someNumbers() []float64 {
	l := []float64{0, 5e-324, 1e-320, 2.2250738585072014e-308, 1e-10, 0.1, 0.5, math.Nextafter(1, 0), 1, 1.5, 2, 2.5, 3, 7, 10, 1023, 1024, 1025, 1 << 31, 1 << 52, 1<<53 - 1, 1 << 53, 1 << 63, 1 << 64, 1e22, 1e300, math.MaxFloat64, inf}
	for _, f := range l {
		l = append(l, -f)
	}
	return append(l, math.NaN())
}

// numbered tells the cell of a number.
func numbered(f float64) api.Cell {
	if f != f {
		return nan()
	}
	return num(f)
}

// P17.6: +, -, * and / are those of the numbers.
func TestFourOps(t *testing.T) {
	h := handed(t, "")
	for _, a := range someNumbers() {
		for _, b := range someNumbers() {
			makes(t, h, "+", numbered(a), numbered(b), numbered(a+b))
			makes(t, h, "-", numbered(a), numbered(b), numbered(a-b))
			makes(t, h, "*", numbered(a), numbered(b), numbered(a*b))
			if b != 0 {
				makes(t, h, "/", numbered(a), numbered(b), numbered(a/b))
			}
		}
	}
	makes(t, h, "+", num(0.1), num(0.2), num(0.30000000000000004))
	makes(t, h, "-", num(0), num(0), num(0))
	makes(t, h, "-", num(nought), num(0), num(nought))
	makes(t, h, "+", num(nought), num(0), num(0))
	makes(t, h, "*", num(-1), num(0), num(nought))
	makes(t, h, "/", num(-1), num(inf), num(nought))
	makes(t, h, "/", num(1), num(3), num(1.0/3))
	makes(t, h, "/", num(1e300), num(1e-300), num(inf))
}

// P17.6: the numbers are those of cells of any kind.
func TestNumbersOfCells(t *testing.T) {
	h := handed(t, "")
	sets(t, h, "CONVFMT", str(wrong))
	for _, a := range someCells() {
		makes(t, h, "+", a, num(1), numbered(cells.Num(a)+1))
		makes(t, h, "-", num(1), a, numbered(1-cells.Num(a)))
		makes(t, h, "*", a, a, numbered(cells.Num(a)*cells.Num(a)))
		makes(t, h, "^", a, str("2nd"), numbered(cells.Num(a)*cells.Num(a)))
		makes(t, h, "%", a, strNum(" 1e308 ", 1e308), numbered(math.Mod(cells.Num(a), 1e308)))
	}
	makes(t, h, "+", str(" 12abc"), strNum("0x", 0), num(12))
	makes(t, h, "/", none(), str("4"), num(0))
	makesNot(t, h, "/", num(1), none(), api.ErrDivide)
	makesNot(t, h, "%", num(1), str("x"), api.ErrDivide)
	makesNot(t, h, "^", num(1), str("0.5"), api.ErrPower)
}

// P17.6: by 0, of either sign, nothing is divided.
func TestDivideByNought(t *testing.T) {
	h := handed(t, "")
	for _, a := range someNumbers() {
		for _, b := range []api.Cell{num(0), num(nought), none(), str(""), str("x"), str("-0"), strNum("0.0", 0), strNum("-0", nought), {Kind: 4}} {
			makesNot(t, h, "/", numbered(a), b, api.ErrDivide)
			makesNot(t, h, "%", numbered(a), b, api.ErrDivide)
		}
		makes(t, h, "/", numbered(a), num(5e-324), numbered(a/5e-324))
	}
}

// rest tells what is left of a by b, by whole numbers without an end.
func rest(a, b float64) float64 {
	x, y := new(big.Rat).SetFloat64(math.Abs(a)), new(big.Rat).SetFloat64(math.Abs(b))
	// Both as whole numbers of the smallest part that a float64 may have.
	unit := new(big.Rat).SetInt(new(big.Int).Lsh(big.NewInt(1), 1074))
	left := new(big.Int).Rem(x.Mul(x, unit).Num(), y.Mul(y, unit).Num())
	f, exact := new(big.Rat).Quo(new(big.Rat).SetInt(left), unit).Float64()
	if !exact {
		return math.NaN()
	}
	return math.Copysign(f, a)
}

// P17.6: what is left, exactly, with the sign of a.
func TestRest(t *testing.T) {
	h := handed(t, "")
	r := seeded()
	wild := func() float64 { return math.Float64frombits(r.Uint64()) }
	finite := func(f float64) bool { return f-f == 0 }
	l := someNumbers()
	for range 60 {
		l = append(l, wild(), math.Trunc(r.NormFloat64()*1000))
	}
	for _, a := range l {
		for _, b := range l {
			if b == 0 {
				continue
			}
			want := math.Mod(a, b)
			if finite(a) && finite(b) {
				want = rest(a, b)
			}
			makes(t, h, "%", numbered(a), numbered(b), numbered(want))
		}
	}
	for _, x := range []struct{ a, b, want float64 }{{7, 3, 1}, {-7, 3, -1}, {7, -3, 1}, {-7, -3, -1}, {6, 3, 0}, {-6, 3, nought}, {5.5, 2, 1.5}, {1e22, 7, 4}, {0, 3, 0}, {nought, 3, nought}, {3, inf, 3}, {-3, inf, -3}, {3, -inf, 3}} {
		makes(t, h, "%", num(x.a), num(x.b), num(x.want))
	}
	for _, x := range [][2]api.Cell{{num(inf), num(3)}, {num(-inf), num(3)}, {nan(), num(3)}, {num(3), nan()}, {num(inf), num(inf)}} {
		makes(t, h, "%", x[0], x[1], nan())
	}
}

// powered tells a to the power of b, multiplied in the order that the chapter has.
func powered(a float64, b int) float64 {
	r, size := 1.0, b
	if b < 0 {
		size = -b
	}
	for size != 0 {
		if size&1 != 0 {
			r = r * a
		}
		a = a * a
		size >>= 1
	}
	if b < 0 {
		r = 1 / r
	}
	return r
}

// P17.6: powers by all whole numbers that may be.
func TestPower(t *testing.T) {
	h := handed(t, "")
	for _, a := range append(someNumbers(), 1.1, -1.1, 0.9, 1.0000001, math.Pi, -math.E) {
		for b := -1024; b <= 1024; b++ {
			makes(t, h, "^", numbered(a), num(float64(b)), numbered(powered(a, b)))
		}
		makes(t, h, "^", numbered(a), num(nought), num(1))
		makes(t, h, "^", numbered(a), none(), num(1))
	}
	for _, x := range []struct{ a, b, want float64 }{{2, 10, 1024}, {2, -2, 0.25}, {-2, 3, -8}, {-2, 2, 4}, {0, 0, 1}, {0, 5, 0}, {nought, 5, nought}, {nought, 4, 0}, {0, -1, inf}, {nought, -1, -inf}, {nought, -2, inf}, {inf, -1, 0}, {-inf, -3, nought}, {10, 308, 1.0000000000000006e308}, {2, 1023, 0x1p1023}, {2, 1024, inf}, {2, -1023, 0x1p-1023}, {2, -1024, 0}, {-1, 1023, -1}, {1, -1024, 1}} {
		makes(t, h, "^", num(x.a), num(x.b), num(x.want))
	}
}

// P17.6: powers that may not be.
func TestNoPower(t *testing.T) {
	h := handed(t, "")
	for _, a := range someNumbers() {
		for _, b := range []float64{0.5, -0.5, 1.5, 5e-324, math.Nextafter(2, 3), math.Nextafter(1024, 0), math.Nextafter(1024, 2000), 1025, -1025, -1024.5, 1 << 31, 1 << 32, 1 << 63, 1 << 64, -1 << 63, 1e300, inf, -inf, math.NaN()} {
			makesNot(t, h, "^", numbered(a), numbered(b), api.ErrPower)
		}
	}
}

// P17.6: there are no other ops.
func TestNoOp(t *testing.T) {
	h := handed(t, "")
	sets(t, h, "CONVFMT", str(wrong))
	for _, op := range []string{"", " ", "++", "--", "**", "<", "==", "~", "+ ", " +", "+\x00", "&", "!", "=", "//", "x", "\xff"} {
		makesNot(t, h, op, num(1), num(0), api.ErrArg)
		makesNot(t, h, op, num(1), half(), api.ErrArg)
	}
	for _, op := range []string{"", " ", "=", "<>", "=<", "=>", "===", "!", "~", "+", "< ", " <", "<\x00", "<<", "x", "\xff"} {
		for _, a := range []api.Cell{num(1), half()} {
			if c, err := h.Compare(op, a, str("x")); c != none() || err != api.ErrArg {
				t.Errorf("Compare(%q, ..) = %+v, %d", op, c, err)
			}
		}
	}
}

// compares says of each op whether it holds of two cells whose order this is.
func compares(t *testing.T, h *Host, a, b api.Cell, order int) {
	t.Helper()
	for op, want := range map[string]bool{"<": order < 0, "<=": order <= 0, "==": order == 0, "!=": order != 0, ">": order > 0, ">=": order >= 0} {
		if c, err := h.Compare(op, a, b); c != one(want) || err != api.OK {
			t.Errorf("Compare(%q, %+v, %+v) = %+v, %d; want %v", op, a, b, c, err, want)
		}
	}
}

// P17.6: cells are held against each other by numbers or by texts, as cells says.
func TestCompare(t *testing.T) {
	h := handed(t, "")
	compares(t, h, num(2), num(10), -1)
	compares(t, h, num(2), str("10"), 1)
	compares(t, h, str("2"), strNum("10", 10), 1)
	compares(t, h, strNum("2", 2), strNum("10", 10), -1)
	compares(t, h, none(), num(0), 0)
	compares(t, h, none(), str(""), 0)
	compares(t, h, num(0), num(nought), 0)
	compares(t, h, nan(), num(-inf), -1)
	compares(t, h, nan(), nan(), 0)
	compares(t, h, str("a"), str("ab"), -1)
	compares(t, h, str("\xff"), str("a"), 1)
	for _, convfmt := range []string{"%.6g", "%.2f", "x"} {
		sets(t, h, "CONVFMT", str(convfmt))
		sets(t, h, "OFMT", str(wrong))
		for _, a := range someCells() {
			for _, b := range someCells() {
				want, err := cells.Compare(a, b, convfmt)
				if err != api.OK {
					t.Fatal(err)
				}
				compares(t, h, a, b, want)
			}
		}
	}
	sets(t, h, "CONVFMT", str("%.2f"))
	compares(t, h, num(0.126), str("0.13"), 0)
	compares(t, h, str("0.13"), num(0.126), 0)
	sets(t, h, "CONVFMT", str(wrong))
	compares(t, h, num(0.126), num(0.13), -1)
	compares(t, h, num(3), str("3"), 0)
	for _, op := range []string{"<", "<=", "==", "!=", ">", ">="} {
		for _, x := range [][2]api.Cell{{half(), str("x")}, {str("x"), half()}} {
			if c, err := h.Compare(op, x[0], x[1]); c != none() || err != api.ErrFormat {
				t.Errorf("Compare(%q, ..) = %+v, %d", op, c, err)
			}
		}
	}
}
