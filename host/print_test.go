package host

import (
	"strings"
	"testing"

	"winnower/api"
)

// outKinds are the streams of the kinds of print, from 1 on.
func outKinds() []api.StreamKind {
	return []api.StreamKind{0, api.OutFile, api.OutAppend, api.OutPipe}
}

// P17.5: there are no other kinds, and no format without a text.
func TestPrintOfNoKind(t *testing.T) {
	h, w := hostOf(t, api.Script{Streams: 8})
	for _, kind := range []int{-1, 4, -2, 5, 6, 1 << 32, 1<<32 + 1, -1 << 63, 1<<63 - 1} {
		for _, format := range []bool{false, true} {
			printsNot(t, h, kind, str("f"), format, api.ErrArg)
			printsNot(t, h, kind, str("f"), format, api.ErrArg, str("x"), num(1))
			printsNot(t, h, kind, half(), format, api.ErrArg, half())
		}
	}
	sets(t, h, "CONVFMT", str(wrong))
	for kind := range 4 {
		printsNot(t, h, kind, half(), true, api.ErrArg)
		if err := h.Print(kind, half(), []api.Cell{}, true); err != api.ErrArg {
			t.Error(err)
		}
	}
	traced(t, w)
}

// P17.5: what is written without a format.
func TestPrint(t *testing.T) {
	h, w := hostOf(t, api.Script{})
	prints(t, h, 0, none(), false, str("a"))
	prints(t, h, 0, str("nowhere"), false, str("a"), none(), num(3), strNum(" 1 ", 1))
	prints(t, h, 0, half(), false, none())
	prints(t, h, 0, none(), false, num(0.1), num(1e6), num(1e20), nan(), num(-inf), num(nought))
	prints(t, h, 0, none(), false, api.Cell{Kind: 4, S: "x"}, str("a\x00\xff"))
	prints(t, h, 0, none(), false)
	setsField(t, h, num(2), str("x"))
	prints(t, h, 0, none(), false)
	if err := h.Print(0, none(), []api.Cell{}, false); err != api.OK {
		t.Error(err)
	}
	prints(t, h, 0, none(), false, make([]api.Cell, 1000)...)
	written(t, w, "a\n", "a  3  1 \n", "\n", "0.1 1000000 1e+20 nan -inf 0\n", " a\x00\xff\n", "\n", " x\n", " x\n", strings.Repeat(" ", 999)+"\n")
}

// P17.5: OFS and ORS as they are, each kind of cell.
func TestPrintBySpecials(t *testing.T) {
	h, w := hostOf(t, api.Script{})
	a, b := str("a"), str("b")
	sets(t, h, "OFS", str(", "))
	prints(t, h, 0, none(), false, a, b, a)
	sets(t, h, "ORS", str(";\n\n"))
	prints(t, h, 0, none(), false, a, b)
	sets(t, h, "OFS", none())
	prints(t, h, 0, none(), false, a, b)
	sets(t, h, "ORS", none())
	prints(t, h, 0, none(), false, a, b)
	// What has no bytes is no event.
	prints(t, h, 0, none(), false, none(), str(""))
	sets(t, h, "OFS", num(0.25))
	sets(t, h, "ORS", num(0.125))
	prints(t, h, 0, none(), false, a, b)
	// These two are no arguments: they go by CONVFMT.
	sets(t, h, "OFMT", str("<%.1f>"))
	sets(t, h, "CONVFMT", str("[%.2f]"))
	prints(t, h, 0, none(), false, a, b)
	prints(t, h, 0, none(), false, num(0.5), num(7))
	written(t, w, "a, b, a\n", "a, b;\n\n", "ab;\n\n", "ab", "a0.25b0.125", "a[0.25]b[0.12]", "<0.5>[0.25]7[0.12]")
}

// P17.5: a number goes by OFMT, other cells by CONVFMT.
func TestPrintByOFMT(t *testing.T) {
	h, w := hostOf(t, api.Script{})
	sets(t, h, "OFMT", str("%.2f"))
	sets(t, h, "CONVFMT", str("%.3f"))
	prints(t, h, 0, none(), false, num(0.5), num(3), strNum("0.5000", 0.5), str("0.5"))
	// $0 is no number here, even if it was set to one.
	setsField(t, h, num(0), num(0.5))
	prints(t, h, 0, none(), false)
	setsField(t, h, num(1), num(0.25))
	prints(t, h, 0, none(), false)
	// OFMT's own text goes by CONVFMT.
	sets(t, h, "OFMT", num(0.125))
	prints(t, h, 0, none(), false, num(0.5))
	sets(t, h, "OFMT", none())
	prints(t, h, 0, none(), false, num(0.5), num(6))
	sets(t, h, "OFMT", strNum("12", 12))
	sets(t, h, "CONVFMT", str(wrong))
	prints(t, h, 0, none(), false, num(0.5), num(6))
	written(t, w, "0.50 3 0.5000 0.5\n", "0.500\n", "0.250\n", "0.125\n", " 6\n", "12 6\n")
}

// P17.5: what has no text isn't written.
func TestPrintWithoutText(t *testing.T) {
	for kind, k := range outKinds() {
		h, w := hostOf(t, api.Script{Streams: 8})
		f := str("f")
		sets(t, h, "OFMT", str(wrong))
		printsNot(t, h, kind, f, false, api.ErrFormat, half())
		printsNot(t, h, kind, f, false, api.ErrFormat, str("a"), half())
		printsNot(t, h, kind, f, false, api.ErrFormat, nan())
		sets(t, h, "OFMT", str(strings.Repeat("%4096g", 256)+"x"))
		printsNot(t, h, kind, f, false, api.ErrLong, half())
		sets(t, h, "OFMT", half())
		sets(t, h, "CONVFMT", str(wrong))
		printsNot(t, h, kind, f, false, api.ErrFormat, half())
		sets(t, h, "OFMT", str("%.6g"))
		sets(t, h, "OFS", half())
		printsNot(t, h, kind, f, false, api.ErrFormat, str("a"), str("b"))
		printsNot(t, h, kind, f, false, api.ErrFormat)
		sets(t, h, "OFS", str(" "))
		sets(t, h, "ORS", half())
		printsNot(t, h, kind, f, false, api.ErrFormat, str("a"), str("b"))
		printsNot(t, h, kind, f, false, api.ErrFormat, str("a"))
		printsNot(t, h, kind, f, false, api.ErrFormat)
		sets(t, h, "ORS", str("\n"))
		setsField(t, h, num(2), half())
		printsNot(t, h, kind, f, false, api.ErrFormat)
		printsNot(t, h, kind, f, true, api.ErrFormat, half())
		printsNot(t, h, kind, f, true, api.ErrFormat, str("%s"), half())
		if kind > 0 {
			printsNot(t, h, kind, half(), false, api.ErrFormat, str("a"))
			printsNot(t, h, kind, half(), true, api.ErrFormat, str("a"))
			// Where to goes ahead of what is written.
			sets(t, h, "CONVFMT", str("%*d"+strings.Repeat("%4096d", 256)))
			printsNot(t, h, kind, num(5000.5), true, api.ErrFormat, half())
			printsNot(t, h, kind, half(), true, api.ErrLong, num(5000.5))
			sets(t, h, "CONVFMT", str(wrong))
		}
		traced(t, w)
		// A number by OFMT, and one by a format.
		prints(t, h, kind, f, false, half())
		prints(t, h, kind, f, true, str("%d"), half())
		want := []api.Event{wrote(k, "f", "0.5\n"), wrote(k, "f", "0")}
		if kind > 0 {
			traced(t, w, opened(k, "f"), want[0], want[1])
		} else {
			written(t, w, "0.5\n", "0")
		}
	}
}

// P17.5: by a format, without OFS and ORS.
func TestPrintf(t *testing.T) {
	h, w := hostOf(t, api.Script{})
	sets(t, h, "OFS", str("-"))
	sets(t, h, "ORS", str("!"))
	sets(t, h, "OFMT", str("%.1f"))
	sets(t, h, "CONVFMT", str("%.2f"))
	for _, l := range [][]api.Cell{
		{str("a\n")}, {str("%d|%s|%5.1f"), num(42.9), str("x"), num(3.14159)}, {str("%s %s"), half(), num(7)}, {str("%s|%d|%s")}, {str("%s|%d"), str("x")}, {str("x"), str("left"), num(1)}, {num(0.125), num(1)}, {strNum(" 12 ", 12)}, {str("%*d%%%c"), num(4), num(7), num(65)}, {none()}, {str("")},
	} {
		prints(t, h, 0, none(), true, l...)
	}
	for _, format := range []string{"%z", "%", "a%5", "x%4097d"} {
		printsNot(t, h, 0, none(), true, api.ErrFormat, str(format), num(1))
	}
	printsNot(t, h, 0, none(), true, api.ErrLong, str(strings.Repeat("%4096d", 257)))
	written(t, w, "a\n", "42|x|  3.1", "0.50 7", "|0|", "x|0", "x", "0.12", " 12 ", "   7%A")
}

// P17.5: streams of each kind, opened once, each by itself.
func TestPrintTo(t *testing.T) {
	for kind, k := range outKinds() {
		if kind == 0 {
			continue
		}
		h, w := hostOf(t, api.Script{Files: files("f", "old\n"), Replies: []api.Reply{{Command: "f", Status: 5}}, Streams: 8})
		prints(t, h, kind, str("f"), false, str("a"))
		prints(t, h, kind, str("f"), true, str("%s;"), str("b"))
		prints(t, h, kind, str("g"), false, str("c"))
		prints(t, h, kind, str("f"), false, str("d"), str("e"))
		traced(t, w, opened(k, "f"), wrote(k, "f", "a\n"), wrote(k, "f", "b;"), opened(k, "g"), wrote(k, "g", "c\n"), wrote(k, "f", "d e\n"))
		want := []string{"a\nb;d e\n", "old\na\nb;d e\n", "old\n"}[kind-1]
		if s, _ := w.File("f"); s != want {
			t.Errorf("%q; want %q", s, want)
		}
		calls(t, h, "close", num([]float64{0, 0, 5}[kind-1]), str("f"))
		prints(t, h, kind, str("f"), false, str("z"))
		want = []string{"z\n", want + "z\n", "old\n"}[kind-1]
		if s, _ := w.File("f"); s != want {
			t.Errorf("%q; want %q", s, want)
		}
	}
}

// P17.5: one name of all kinds, and names that are numbers.
func TestPrintToOneName(t *testing.T) {
	h, w := hostOf(t, api.Script{Streams: 8})
	var want []api.Event
	for range 2 {
		for kind, k := range outKinds()[1:] {
			prints(t, h, kind+1, num(12), false, str("a"))
			if len(want) < 6 {
				want = append(want, opened(k, "12"))
			}
			want = append(want, wrote(k, "12", "a\n"))
		}
	}
	prints(t, h, 1, str("12"), false, str("b"))
	prints(t, h, 1, num(0.25), false, str("c"))
	sets(t, h, "CONVFMT", str("%.1f"))
	sets(t, h, "OFMT", str("%.3f"))
	prints(t, h, 1, num(0.25), false, str("d"))
	prints(t, h, 2, none(), false, str("e"))
	prints(t, h, 1, str("-"), false, str("f"))
	traced(t, w, append(want, wrote(api.OutFile, "12", "b\n"), opened(api.OutFile, "0.25"), wrote(api.OutFile, "0.25", "c\n"), opened(api.OutFile, "0.2"), wrote(api.OutFile, "0.2", "d\n"), opened(api.OutAppend, ""), wrote(api.OutAppend, "", "e\n"), opened(api.OutFile, "-"), wrote(api.OutFile, "-", "f\n"))...)
}

// P17.5: a stream that is open already is written to, whoever opened it; what has
// no bytes opens one, too.
func TestPrintToOpen(t *testing.T) {
	for kind, k := range outKinds()[1:] {
		h, w := hostOf(t, api.Script{Streams: 1})
		if err := w.Open(k, "f"); err != api.OK {
			t.Fatal(err)
		}
		prints(t, h, kind+1, str("f"), false, str("a"))
		prints(t, h, kind+1, str("f"), true, str(""))
		calls(t, h, "close", num(0), str("f"))
		prints(t, h, kind+1, str("g"), true, str(""))
		traced(t, w, opened(k, "f"), wrote(k, "f", "a\n"), closed(k, "f", 0), opened(k, "g"))
	}
}

// P17.5: what can't be opened or written.
func TestPrintFails(t *testing.T) {
	for kind, k := range outKinds()[1:] {
		h, w := hostOf(t, api.Script{Fails: []api.Fail{{Op: 1, Name: "shut"}, {Op: 3, Name: "torn"}}, Streams: 2})
		printsNot(t, h, kind+1, str("shut"), false, api.ErrOpen, str("a"))
		traced(t, w)
		printsNot(t, h, kind+1, str("torn"), false, api.ErrWrite, str("a"))
		printsNot(t, h, kind+1, str("torn"), false, api.ErrWrite, str("a"))
		printsNot(t, h, kind+1, str("torn"), true, api.ErrWrite, str(""))
		traced(t, w, opened(k, "torn"))
		prints(t, h, kind+1, str("f"), false, str("a"))
		printsNot(t, h, kind+1, str("g"), false, api.ErrStreams, str("a"))
		printsNot(t, h, kind+1, str("shut"), false, api.ErrStreams, str("a"))
		prints(t, h, kind+1, str("f"), false, str("b"))
		// What is written is told ahead of that.
		sets(t, h, "OFMT", str(wrong))
		printsNot(t, h, kind+1, str("g"), false, api.ErrFormat, half())
		printsNot(t, h, kind+1, str("torn"), false, api.ErrFormat, half())
		printsNot(t, h, kind+1, str("g"), true, api.ErrFormat, str(wrong))
		traced(t, w, opened(k, "torn"), opened(k, "f"), wrote(k, "f", "a\n"), wrote(k, "f", "b\n"))
	}
	h, w := hostOf(t, api.Script{Fails: []api.Fail{{Op: 3}, {Op: 1}}, Streams: 2})
	printsNot(t, h, 0, none(), false, api.ErrWrite, str("a"))
	printsNot(t, h, 0, str("f"), false, api.ErrWrite)
	printsNot(t, h, 0, str("f"), true, api.ErrWrite, str("a"))
	prints(t, h, 1, str("f"), false, str("a"))
	traced(t, w, opened(api.OutFile, "f"), wrote(api.OutFile, "f", "a\n"))
}
