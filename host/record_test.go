package host

import (
	"math"
	"strings"
	"testing"

	"winnower/api"
)

// noFields are cells that are no whole numbers, or ones of no field.
func noFields() []api.Cell {
	return []api.Cell{nan(), num(inf), num(-inf), num(-1), num(-1.5), num(mostFields + 1), num(mostFields + 1.5), num(1 << 31), num(-1 << 31), num(1<<31 + 1), num(-1<<31 - 1), num(1 << 32), num(1<<32 + 1), num(-1<<32 + 1), num(1 << 53), num(1 << 63), num(1 << 64), num(-1 << 63), num(1e300), num(-1e300), str("-1"), str("1e9x"), strNum("-7", -7), {Kind: api.Num, N: 0xfff0000000000001}}
}

// P17.3: the field of 0 is the record, as it looks.
func TestFieldOfNought(t *testing.T) {
	for _, n := range []api.Cell{none(), num(0), num(nought), num(0.99), num(-0.99), num(5e-324), str(""), str("x"), str("0"), str("-0.5"), strNum("0", 0), {Kind: 7, S: "1"}} {
		h := recordOf(t, "a b", " ")
		isField(t, h, n, str("a b"))
		setsField(t, h, n, str(" 12 "))
		isField(t, h, n, strNum(" 12 ", 12))
		setsField(t, h, n, num(0.1))
		isField(t, h, n, strNum("0.1", 0.1))
		setsField(t, h, n, none())
		isField(t, h, n, str(""))
		setsField(t, h, n, strNum("1x", 1))
		isField(t, h, n, str("1x"))
		wasSplit(t, h, 0)
	}
}

// P17.3: fields by their numbers, the rest behind the point left out.
func TestFields(t *testing.T) {
	h := recordOf(t, "a 12 c", " ")
	for _, x := range []struct{ n, want api.Cell }{
		{num(1), str("a")}, {num(1.99), str("a")}, {str("1"), str("a")}, {strNum(" 1 ", 1), str("a")}, {num(2), strNum("12", 12)}, {str("2nd"), strNum("12", 12)}, {num(math.Nextafter(3, 0)), strNum("12", 12)}, {num(3), str("c")}, {num(3.5), str("c")},
		{num(4), none()}, {num(5), none()}, {num(1000), none()}, {num(mostFields), none()}, {num(mostFields + 0.9), none()},
	} {
		isField(t, h, x.n, x.want)
	}
	are(t, h, "NF", 3)
	wasSplit(t, h, 1)
}

// P17.3: what is no field's number turns nothing, whatever the record is.
func TestNoFields(t *testing.T) {
	for _, n := range noFields() {
		h := recordOf(t, "a b", " ")
		isNoField(t, h, n, api.ErrField)
		setsNoField(t, h, n, str("x"), api.ErrField)
		wasSplit(t, h, 0)
		recordIs(t, h, "a b")
		fieldsAre(t, h, "a", "b")
		isNoField(t, h, n, api.ErrField)
		setsNoField(t, h, n, str("x"), api.ErrField)
		fieldsAre(t, h, "a", "b")
		recordIs(t, h, "a b")
		// It counts ahead of what has no text, and of what is no pattern.
		h = recordOf(t, "a b", noPattern)
		sets(t, h, "OFS", half())
		sets(t, h, "CONVFMT", str(wrong))
		isNoField(t, h, n, api.ErrField)
		setsNoField(t, h, n, half(), api.ErrField)
	}
}

// P17.3: fields that are set, of each kind of cell, as they are.
func TestSetFields(t *testing.T) {
	for _, c := range someCells() {
		h := recordOf(t, "a b c", " ")
		sets(t, h, "OFS", str("-"))
		text, err := h.Text(c)
		if err != api.OK {
			t.Fatal(err)
		}
		setsField(t, h, num(2), c)
		isField(t, h, num(2), c)
		recordIs(t, h, "a-"+text+"-c")
		are(t, h, "NF", 3)
		setsField(t, h, str("5.5"), c)
		isField(t, h, num(4), none())
		isField(t, h, num(5), c)
		are(t, h, "NF", 5)
		recordIs(t, h, "a-"+text+"-c--"+text)
		setsField(t, h, num(1), str("z"))
		recordIs(t, h, "z-"+text+"-c--"+text)
		wasSplit(t, h, 1)
	}
	h := recordOf(t, "a", " ")
	setsField(t, h, num(mostFields), str("z"))
	are(t, h, "NF", mostFields)
	recordIs(t, h, "a"+strings.Repeat(" ", mostFields-1)+"z")
}

// P17.3: the record's text is made of its fields once, by OFS and CONVFMT as they
// are when it is asked for.
func TestStaleRecord(t *testing.T) {
	h := recordOf(t, "a b", " ")
	sets(t, h, "OFS", str("-"))
	recordIs(t, h, "a b")
	setsField(t, h, num(2), num(0.25))
	sets(t, h, "OFS", str("+"))
	sets(t, h, "CONVFMT", str("%.1f"))
	recordIs(t, h, "a+0.2")
	sets(t, h, "OFS", str("*"))
	sets(t, h, "CONVFMT", str("%.3f"))
	recordIs(t, h, "a+0.2")
	setsField(t, h, num(3), none())
	recordIs(t, h, "a*0.250*")
	isField(t, h, num(2), num(0.25))
	// Each call that asks for $0 makes the text.
	setsField(t, h, num(3), str("c"))
	calls(t, h, "length", num(9))
	sets(t, h, "OFS", str("??"))
	recordIs(t, h, "a*0.250*c")
	setsField(t, h, num(3), str("d"))
	prints(t, h, 0, none(), false)
	sets(t, h, "OFS", str("-"))
	recordIs(t, h, "a??0.250??d")
	// A number as OFS goes by CONVFMT.
	sets(t, h, "OFS", half())
	setsField(t, h, num(2), str("b"))
	recordIs(t, h, "a0.500b0.500d")
	sets(t, h, "CONVFMT", str(wrong))
	sets(t, h, "OFS", num(7))
	setsField(t, h, num(2), str("c"))
	recordIs(t, h, "a7c7d")
}

// P17.3: what has no text.
func TestRecordsWithoutText(t *testing.T) {
	h := recordOf(t, "a b", " ")
	setsField(t, h, num(2), half())
	sets(t, h, "CONVFMT", str(wrong))
	isNoField(t, h, num(0), api.ErrFormat)
	setsNoField(t, h, num(0), half(), api.ErrFormat)
	isField(t, h, num(2), half())
	isField(t, h, num(1), str("a"))
	sets(t, h, "CONVFMT", str("%.1f"))
	recordIs(t, h, "a 0.5")
	// OFS.
	setsField(t, h, num(2), str("c"))
	sets(t, h, "OFS", half())
	sets(t, h, "CONVFMT", str(wrong))
	isNoField(t, h, num(0), api.ErrFormat)
	sets(t, h, "OFS", str("-"))
	recordIs(t, h, "a-c")
	// FS and RS, by which a record is set.
	for _, name := range []string{"FS", "RS"} {
		sets(t, h, name, half())
		setsNoField(t, h, num(0), str("x:y"), api.ErrFormat)
		recordIs(t, h, "a-c")
		sets(t, h, name, str(":"))
		are(t, h, "NF", 2)
	}
	setsField(t, h, num(0), str("x:y"))
	fieldsAre(t, h, "x", "y")
}

// P17.3: a record is split by FS as it was when the record was set whole.
func TestFSOfRecord(t *testing.T) {
	for _, asked := range []bool{false, true} {
		h := handed(t, "a b:c\nd e:f\ng h:i\n")
		goesOn(t, h, "a b:c")
		if asked {
			fieldsAre(t, h, "a", "b:c")
		}
		sets(t, h, "FS", str(":"))
		fieldsAre(t, h, "a", "b:c")
		goesOn(t, h, "d e:f")
		if asked {
			fieldsAre(t, h, "d e", "f")
		}
		sets(t, h, "FS", str(""))
		setsField(t, h, num(3), str("z"))
		fieldsAre(t, h, "d e", "f", "z")
		recordIs(t, h, "d e f z")
		// A field that is set, and NF, turn no FS.
		sets(t, h, "NF", num(1))
		fieldsAre(t, h, "d e")
		setsField(t, h, num(0), str("xyz"))
		if asked {
			fieldsAre(t, h, "x", "y", "z")
		}
		sets(t, h, "FS", str("[0-9]+"))
		fieldsAre(t, h, "x", "y", "z")
		reads(t, h, 1, none(), false, 1, str("g h:i"))
		sets(t, h, "FS", str(" "))
		fieldsAre(t, h, "g h:i")
	}
	// At first it is a blank.
	h := handed(t, "")
	sets(t, h, "FS", str(noPattern))
	are(t, h, "NF", 0)
	setsField(t, h, num(2), str("x"))
	recordIs(t, h, " x")
}

// P17.3: each FS that there may be; of a number its text counts.
func TestEachFS(t *testing.T) {
	for _, x := range []struct {
		fs   api.Cell
		text string
		want []string
	}{
		{str(" "), " a\tb\nc ", []string{"a", "b", "c"}}, {str(""), "ab", []string{"a", "b"}}, {none(), "ab", []string{"a", "b"}}, {str("\t"), "a\t\tb c", []string{"a", "", "b c"}}, {str("x+"), "axxbxc", []string{"a", "b", "c"}}, {str("|"), "a|b", []string{"a", "b"}}, {num(7), "a7b", []string{"a", "b"}}, {half(), "a0.5b0x5c", []string{"a", "b", "c"}}, {strNum(" 7", 7), "a 7b", []string{"a", "b"}}, {str(":"), "", nil},
	} {
		h := handed(t, "")
		sets(t, h, "FS", x.fs)
		setsField(t, h, num(0), str(x.text))
		fieldsAre(t, h, x.want...)
	}
	h := recordOf(t, "a", strings.Repeat("(", 300))
	isNot(t, h, "NF", api.ErrPattern)
	h = recordOf(t, strings.Repeat("a:", mostFields), ":")
	isNot(t, h, "NF", api.ErrFull)
	isNoField(t, h, num(1), api.ErrFull)
	h = recordOf(t, strings.Repeat("a:", mostFields-1), ":")
	are(t, h, "NF", mostFields)
}

// P17.3: a byte 10 parts fields, too, where RS had no bytes when the record was
// set.
func TestLinesOfRecord(t *testing.T) {
	const text = "a:b\nc:d"
	h := handed(t, "")
	sets(t, h, "FS", str(":"))
	setsField(t, h, num(0), str(text))
	sets(t, h, "RS", str(""))
	fieldsAre(t, h, "a", "b\nc", "d")
	for _, rs := range []api.Cell{str(""), none(), {Kind: 4, S: "x"}} {
		sets(t, h, "RS", rs)
		setsField(t, h, num(0), str(text))
		sets(t, h, "RS", str("\n"))
		fieldsAre(t, h, "a", "b", "c", "d")
	}
	for _, rs := range []api.Cell{str("\n"), str("x"), str("ab"), num(0), strNum("0", 0), half()} {
		sets(t, h, "RS", rs)
		setsField(t, h, num(0), str(text))
		sets(t, h, "RS", str(""))
		fieldsAre(t, h, "a", "b\nc", "d")
	}
	for _, x := range []struct {
		fs   string
		want []string
	}{{":+", []string{"a", "b", "c", "d"}}, {" ", []string{"a:b", "c:d"}}, {"", []string{"a", ":", "b", "\n", "c", ":", "d"}}} {
		sets(t, h, "FS", str(x.fs))
		setsField(t, h, num(0), str(text))
		fieldsAre(t, h, x.want...)
	}
}

// P17.3: a record that is set whole is that text, and stale no more.
func TestSetWhole(t *testing.T) {
	h := recordOf(t, "a b", " ")
	setsField(t, h, num(1), str("x"))
	setsField(t, h, num(0), str("c d e"))
	recordIs(t, h, "c d e")
	fieldsAre(t, h, "c", "d", "e")
	sets(t, h, "CONVFMT", str("%.3f"))
	setsField(t, h, num(0), num(0.25))
	isField(t, h, num(0), strNum("0.250", 0.25))
	isField(t, h, num(1), strNum("0.250", 0.25))
	are(t, h, "NF", 1)
	setsField(t, h, num(0), num(12))
	isField(t, h, num(0), strNum("12", 12))
	text := strings.Repeat("long and ", 1<<17)
	setsField(t, h, num(0), str(text))
	isField(t, h, num(0), str(text))
}
