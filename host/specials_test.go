package host

import (
	"math"
	"strings"
	"testing"

	"winnower/api"
	"winnower/cells"
)

// P17.2: each special at first.
func TestSpecialsAtFirst(t *testing.T) {
	want := map[string]api.Cell{"NR": num(0), "NF": num(0), "FNR": num(0), "FS": str(" "), "OFS": str(" "), "ORS": str("\n"), "RS": str("\n"), "FILENAME": none(), "SUBSEP": str("\x1c"), "RSTART": num(0), "RLENGTH": num(-1), "CONVFMT": str("%.6g"), "OFMT": str("%.6g")}
	h := handed(t, "x y\n")
	for _, name := range specials() {
		is(t, h, name, want[name])
		is(t, h, name, want[name])
	}
	if len(want) != len(specials()) {
		t.Error(len(want))
	}
}

// P17.2: each special, but NF, is what it was set to, of each kind of cell, and
// no other one is.
func TestSetSpecials(t *testing.T) {
	for _, name := range specials() {
		if name == "NF" {
			continue
		}
		h, untouched := handed(t, ""), handed(t, "")
		for _, c := range someCells() {
			sets(t, h, name, c)
			for _, other := range specials() {
				want, _ := untouched.Get(other)
				if other == name {
					want = c
				}
				is(t, h, other, want)
			}
		}
	}
}

// P17.2: names that are no special's.
func TestNoSpecials(t *testing.T) {
	h := handed(t, "")
	for _, name := range []string{"", "x", "nr", "Nr", "NR ", " NR", "N", "NRS", "NFS", "ENVIRON", "$0", "0", "length", "BEGIN", "FS\x00", strings.Repeat("NR", 1<<16)} {
		isNot(t, h, name, api.ErrArg)
		for _, c := range someCells() {
			setsNot(t, h, name, c, api.ErrArg)
		}
		isNot(t, h, name, api.ErrArg)
	}
	are(t, h, "NR", 0, "NF", 0)
}

// P17.2: NF is how many fields there are, ahead of and behind a split.
func TestNF(t *testing.T) {
	h := recordOf(t, "a b  c", " ")
	are(t, h, "NF", 3)
	are(t, h, "NF", 3)
	setsField(t, h, num(5), str("e"))
	are(t, h, "NF", 5)
	setsField(t, h, num(0), str(""))
	are(t, h, "NF", 0)
	setsField(t, h, num(0), str("x"))
	are(t, h, "NF", 1)
}

// P17.2: NF is set by a whole number, the rest behind the point left out.
func TestSetNF(t *testing.T) {
	for _, x := range []struct {
		c    api.Cell
		text string
		n    int
	}{
		{num(0), "", 0}, {num(nought), "", 0}, {none(), "", 0}, {str(""), "", 0}, {str("x"), "", 0}, {num(0.9), "", 0}, {num(-0.9), "", 0}, {str("-0.5y"), "", 0}, {strNum("0", 0), "", 0}, {num(5e-324), "", 0},
		{num(1), "a", 1}, {num(1.9), "a", 1}, {str("1x"), "a", 1}, {strNum(" 1.5 ", 1.5), "a", 1}, {num(math.Nextafter(2, 0)), "a", 1},
		{num(2), "a-b", 2}, {num(3), "a-b-c", 3}, {num(3.2), "a-b-c", 3}, {num(4), "a-b-c-", 4}, {str("6"), "a-b-c---", 6}, {api.Cell{Kind: 9, N: math.Float64bits(4)}, "a-b-c-", 4},
		{num(mostFields), "a-b-c" + strings.Repeat("-", mostFields-3), mostFields}, {num(mostFields + 0.5), "a-b-c" + strings.Repeat("-", mostFields-3), mostFields},
	} {
		for _, ahead := range []bool{false, true} {
			h := recordOf(t, "a b c", " ")
			sets(t, h, "OFS", str("-"))
			if ahead {
				are(t, h, "NF", 3)
			}
			sets(t, h, "NF", x.c)
			are(t, h, "NF", x.n)
			recordIs(t, h, x.text)
			wasSplit(t, h, 1)
		}
	}
}

// P17.2: what no number of fields can be turns nothing.
func TestSetNoNF(t *testing.T) {
	for _, c := range []api.Cell{nan(), num(inf), num(-inf), num(-1), num(-1.5), str("-2"), num(mostFields + 1), num(1 << 31), num(-1 << 31), num(1<<31 + 1), num(-1<<31 - 1), num(1 << 32), num(1<<32 + 2), num(1 << 63), num(1 << 64), num(-1 << 63), num(1e300), str("1e400"), strNum("-1e9", -1e9), {Kind: api.Num, N: 0xfff0000000000001}} {
		h := recordOf(t, "a b c", " ")
		sets(t, h, "OFS", str("-"))
		setsNot(t, h, "NF", c, api.ErrField)
		wasSplit(t, h, 0)
		recordIs(t, h, "a b c")
		fieldsAre(t, h, "a", "b", "c")
		setsNot(t, h, "NF", c, api.ErrField)
		fieldsAre(t, h, "a", "b", "c")
		recordIs(t, h, "a b c")
	}
	// What is no number of fields counts ahead of what is no pattern.
	h := recordOf(t, "a b c", noPattern)
	setsNot(t, h, "NF", num(-1), api.ErrField)
	setsNot(t, h, "NF", nan(), api.ErrField)
	setsNot(t, h, "NF", num(1), api.ErrPattern)
	isNot(t, h, "NF", api.ErrPattern)
}

// P17.2: a cell's text, by CONVFMT.
func TestText(t *testing.T) {
	h := handed(t, "")
	for _, x := range []struct {
		convfmt api.Cell
		c       api.Cell
		want    string
	}{
		{str("%.6g"), num(0.1), "0.1"}, {str("%.6g"), num(3.14159265), "3.14159"}, {str("%.6g"), num(1e20), "1e+20"}, {str("%.6g"), num(1e6), "1000000"}, {str("%.6g"), num(-17), "-17"}, {str("%.6g"), none(), ""}, {str("%.6g"), str("a\x00b"), "a\x00b"}, {str("%.6g"), strNum(" 0.50 ", 0.5), " 0.50 "}, {str("%.6g"), api.Cell{Kind: 4, N: 7, S: "x"}, ""}, {str("%.6g"), num(nought), "0"}, {str("%.6g"), nan(), "nan"}, {str("%.6g"), num(inf), "inf"}, {str("%.6g"), num(-inf), "-inf"},
		{str("%.2f"), num(0.125), "0.12"}, {str("%.2f"), num(3), "3"}, {str("%d"), num(3.7), "3"}, {str("<%e>"), num(0.5), "<5.000000e-01>"}, {str("x"), num(0.5), "x"}, {str(""), num(0.5), ""},
		// CONVFMT's own text, whatever its cell is.
		{none(), num(0.5), ""}, {num(12), num(0.5), "12"}, {num(1.0 / 3), num(0.5), "0.333333"}, {strNum("%", 0), num(1), "1"}, {strNum("012", 12), num(0.5), "012"}, {api.Cell{Kind: 4, S: "%d"}, num(0.5), ""}, {nan(), num(0.5), "nan"},
		{str(wrong), num(3), "3"}, {str(wrong), str("x"), "x"}, {str(wrong), none(), ""}, {str(wrong), strNum("0.5", 0.5), "0.5"},
	} {
		sets(t, h, "CONVFMT", x.convfmt)
		hasText(t, h, x.c, x.want)
	}
	for _, convfmt := range []string{wrong, "%", "%5", "%4097g", "a%.4097g", "%-"} {
		sets(t, h, "CONVFMT", str(convfmt))
		hasNoText(t, h, half(), api.ErrFormat)
		hasNoText(t, h, nan(), api.ErrFormat)
		hasText(t, h, num(7), "7")
	}
	sets(t, h, "CONVFMT", str(strings.Repeat("%4096g", 256)+"x"))
	hasNoText(t, h, half(), api.ErrLong)
	// OFMT is nothing to it.
	sets(t, h, "CONVFMT", str("%.1f"))
	sets(t, h, "OFMT", str("%.3f"))
	hasText(t, h, half(), "0.5")
	sets(t, h, "OFMT", str(wrong))
	hasText(t, h, half(), "0.5")
}

// P17.2: a text is that of cells, of each cell by each CONVFMT.
func TestTextOfCells(t *testing.T) {
	h := handed(t, "")
	for _, convfmt := range []string{"%.6g", "%.2f", "", "x%dy", wrong} {
		sets(t, h, "CONVFMT", str(convfmt))
		for _, c := range someCells() {
			want, wantErr := cells.String(c, convfmt)
			if s, err := h.Text(c); s != want || err != wantErr {
				t.Errorf("Text(%+v) by %q = %q, %d; want %q, %d", c, convfmt, s, err, want, wantErr)
			}
		}
	}
}

// P17.2: a key is the cells' texts, with SUBSEP's between each two.
func TestKey(t *testing.T) {
	h := handed(t, "")
	keyIs(t, h, "")
	if s, err := h.Key(nil); s != "" || err != api.OK {
		t.Errorf("%q %d", s, err)
	}
	keyIs(t, h, "a", str("a"))
	keyIs(t, h, "", none())
	keyIs(t, h, "0.1", num(0.1))
	keyIs(t, h, "a\x1cb", str("a"), str("b"))
	keyIs(t, h, "1\x1c\x1c x", num(1), none(), str(" x"))
	keyIs(t, h, strings.Repeat("\x1c", 999), make([]api.Cell, 1000)...)
	for _, x := range []struct {
		c    api.Cell
		want string
	}{{str(""), "ab1"}, {none(), "ab1"}, {str("--"), "a--b--1"}, {num(7), "a7b71"}, {strNum(" 0 ", 0), "a 0 b 0 1"}, {half(), "a0.5b0.51"}} {
		sets(t, h, "SUBSEP", x.c)
		keyIs(t, h, x.want, str("a"), str("b"), num(1))
		keyIs(t, h, "a", str("a"))
	}
	sets(t, h, "CONVFMT", str("%.2f"))
	keyIs(t, h, "0.330.500.67", num(1.0/3), num(2.0/3))
	sets(t, h, "CONVFMT", str(wrong))
	// SUBSEP has no text any more.
	keyIsNot(t, h, api.ErrFormat, str("a"), str("b"))
	sets(t, h, "SUBSEP", str("-"))
	keyIs(t, h, "a-b-3", str("a"), str("b"), num(3))
	keyIsNot(t, h, api.ErrFormat, half())
	keyIsNot(t, h, api.ErrFormat, half(), str("b"))
	keyIsNot(t, h, api.ErrFormat, str("a"), half())
	keyIsNot(t, h, api.ErrFormat, str("a"), str("b"), half())
	// The first one's error counts: this one has no format, that one's text is
	// too long.
	sets(t, h, "CONVFMT", str("%*d"+strings.Repeat("%4096d", 256)))
	keyIsNot(t, h, api.ErrFormat, num(5000.5), half())
	keyIsNot(t, h, api.ErrLong, half(), num(5000.5))
}
