package host

import (
	"math"
	"strings"
	"testing"

	"winnower/api"
)

// P17.4: the records of what is handed in.
func TestNext(t *testing.T) {
	h, w := hostOf(t, api.Script{Stdin: "a b\nc\n\nd", Streams: 1})
	are(t, h, "NR", 0, "FNR", 0)
	is(t, h, "FILENAME", none())
	for i, want := range []string{"a b", "c", "", "d"} {
		goesOn(t, h, want)
		are(t, h, "NR", i+1, "FNR", i+1)
		is(t, h, "FILENAME", str("-"))
	}
	isOver(t, h)
	// Behind the last one all is as it was.
	are(t, h, "NR", 4, "FNR", 4)
	is(t, h, "FILENAME", str("-"))
	recordIs(t, h, "d")
	traced(t, w, opened(api.InFile, "-"))
	wasSplit(t, h, 0)
}

// P17.4: nothing is handed in.
func TestNextOfNothing(t *testing.T) {
	for _, files := range [][]string{nil, {}, {"-"}} {
		h, w := hostOf(t, api.Script{Streams: 1}, files...)
		setsField(t, h, num(0), str("x"))
		sets(t, h, "FNR", num(7))
		isOver(t, h)
		are(t, h, "NR", 0, "FNR", 0)
		is(t, h, "FILENAME", str("-"))
		recordIs(t, h, "x")
		traced(t, w, opened(api.InFile, "-"))
	}
}

// P17.4: FNR, NR and FILENAME from file to file.
func TestNextOfFiles(t *testing.T) {
	s := api.Script{Files: files("f", "a\nb\n", "g", "c\n", "none", "", "", "d"), Stdin: "e\nh\n", Streams: 8}
	h, w := hostOf(t, s, "f", "none", "g", "-", "", "none")
	for i, x := range []struct {
		want, name string
		fnr        int
	}{{"a", "f", 1}, {"b", "f", 2}, {"c", "g", 1}, {"e", "-", 1}, {"h", "-", 2}, {"d", "", 1}} {
		goesOn(t, h, x.want)
		are(t, h, "NR", i+1, "FNR", x.fnr)
		is(t, h, "FILENAME", str(x.name))
	}
	isOver(t, h)
	are(t, h, "NR", 6, "FNR", 0)
	is(t, h, "FILENAME", str("none"))
	recordIs(t, h, "d")
	traced(t, w, opened(api.InFile, "f"), opened(api.InFile, "none"), opened(api.InFile, "g"), opened(api.InFile, "-"), opened(api.InFile, ""))
}

// P17.4: a file that is named twice is one stream, which is at its end.
func TestNextOfOneFileTwice(t *testing.T) {
	for _, name := range []string{"f", "-"} {
		h, w := hostOf(t, api.Script{Files: files("f", "a\nb\n", "g", "c\n"), Stdin: "a\nb\n", Streams: 8}, name, name, "g", name)
		goesOn(t, h, "a")
		goesOn(t, h, "b")
		are(t, h, "FNR", 2)
		goesOn(t, h, "c")
		are(t, h, "NR", 3, "FNR", 1)
		is(t, h, "FILENAME", str("g"))
		isOver(t, h)
		are(t, h, "NR", 3, "FNR", 0)
		is(t, h, "FILENAME", str(name))
		traced(t, w, opened(api.InFile, name), opened(api.InFile, "g"))
	}
}

// P17.4: a file is opened when its turn comes, not sooner.
func TestNextOpensLate(t *testing.T) {
	h, w := hostOf(t, api.Script{Files: files("f", "a\n"), Streams: 8}, "f", "g")
	traced(t, w)
	goesOn(t, h, "a")
	traced(t, w, opened(api.InFile, "f"))
	prints(t, h, 1, str("g"), false, str("b"))
	goesOn(t, h, "b")
	is(t, h, "FILENAME", str("g"))
	isOver(t, h)
	traced(t, w, opened(api.InFile, "f"), opened(api.OutFile, "g"), wrote(api.OutFile, "g", "b\n"), opened(api.InFile, "g"))
}

// P17.4: a file that can't be opened is left behind.
func TestNextOfMissing(t *testing.T) {
	s := api.Script{Files: files("f", "a\n", "g", "b\n"), Fails: []api.Fail{{Op: 1, Name: "shut"}}, Streams: 8}
	h, w := hostOf(t, s, "missing", "f", "shut", "missing", "g", "shut")
	goesNotOn(t, h, api.ErrOpen)
	recordIs(t, h, "")
	goesOn(t, h, "a")
	are(t, h, "NR", 1, "FNR", 1)
	is(t, h, "FILENAME", str("f"))
	goesNotOn(t, h, api.ErrOpen)
	recordIs(t, h, "a")
	are(t, h, "NR", 1)
	goesNotOn(t, h, api.ErrOpen)
	goesOn(t, h, "b")
	are(t, h, "NR", 2, "FNR", 1)
	is(t, h, "FILENAME", str("g"))
	goesNotOn(t, h, api.ErrOpen)
	isOver(t, h)
	are(t, h, "NR", 2)
	traced(t, w, opened(api.InFile, "f"), opened(api.InFile, "g"))
}

// P17.4: so is one for which there are too many streams.
func TestNextOfTooMany(t *testing.T) {
	h, w := hostOf(t, api.Script{Files: files("f", "a\n", "g", "b\n"), Stdin: "c\n", Streams: 1}, "f", "g", "-", "f")
	goesOn(t, h, "a")
	goesNotOn(t, h, api.ErrStreams)
	goesNotOn(t, h, api.ErrStreams)
	isOver(t, h)
	are(t, h, "NR", 1)
	traced(t, w, opened(api.InFile, "f"))
	h, w = hostOf(t, api.Script{Stdin: "c\n"})
	goesNotOn(t, h, api.ErrStreams)
	isOver(t, h)
	traced(t, w)
}

// P17.4: a file that can't be read stays open, and all is as it was but for the
// file.
func TestNextOfUnreadable(t *testing.T) {
	h, w := hostOf(t, api.Script{Files: files("f", "a\n", "g", "b\n"), Fails: []api.Fail{{Op: 2, Name: "g"}}, Streams: 8}, "f", "g", "f")
	goesOn(t, h, "a")
	for range 3 {
		goesNotOn(t, h, api.ErrRead)
		recordIs(t, h, "a")
		are(t, h, "NR", 1, "FNR", 0)
		is(t, h, "FILENAME", str("g"))
	}
	traced(t, w, opened(api.InFile, "f"), opened(api.InFile, "g"))
}

// P17.4: NR and FNR are one more than what they were set to.
func TestCounts(t *testing.T) {
	for _, x := range []struct {
		c    api.Cell
		want float64
	}{
		{num(41), 42}, {none(), 1}, {str(""), 1}, {str("7 and"), 8}, {str("x"), 1}, {strNum(" 2.5", 2.5), 3.5}, {num(-1), 0}, {num(-0.5), 0.5}, {num(1 << 53), 1 << 53}, {num(1<<53 - 1), 1 << 53}, {num(1e300), 1e300}, {num(inf), inf}, {num(-inf), -inf}, {nan(), math.NaN()},
	} {
		want := num(x.want)
		if x.want != x.want {
			want = nan()
		}
		h := handed(t, "x\nx\nx\n")
		goesOn(t, h, "x")
		sets(t, h, "NR", x.c)
		sets(t, h, "FNR", num(3))
		goesOn(t, h, "x")
		is(t, h, "NR", want)
		are(t, h, "FNR", 4)
		sets(t, h, "FNR", x.c)
		sets(t, h, "NR", num(9))
		reads(t, h, 1, none(), true, 1, str("x"))
		is(t, h, "FNR", want)
		are(t, h, "NR", 10)
		if t.Failed() {
			t.Fatalf("of %+v", x.c)
		}
	}
}

// P17.4: records by RS, which may turn ahead of each of them.
func TestNextByRS(t *testing.T) {
	h := handed(t, "a:b;c\n\n\nd e\nf\n\ng7h0.5i\x1cj")
	for _, x := range []struct {
		rs   api.Cell
		want string
	}{
		{str(":"), "a"}, {str(";:"), "b"}, {str(""), "c"}, {none(), "d e\nf"}, {num(7), "g"}, {half(), "h"}, {strNum(" 5", 5), ".5i\x1cj"},
	} {
		sets(t, h, "RS", x.rs)
		goesOn(t, h, x.want)
	}
	isOver(t, h)
	h = handed(t, "\n\na b\nc\n\n\n\nd:\n")
	sets(t, h, "RS", str(""))
	sets(t, h, "FS", str(":"))
	goesOn(t, h, "a b\nc")
	sets(t, h, "RS", str(":"))
	fieldsAre(t, h, "a b", "c")
	goesOn(t, h, "d")
	goesOn(t, h, "\n")
	isOver(t, h)
	h = handed(t, "\n\n\n")
	sets(t, h, "RS", str(""))
	isOver(t, h)
}

// P17.4, R2: by what has no text no record is told, and none is gone.
func TestNextWithoutText(t *testing.T) {
	for _, name := range []string{"RS", "FS"} {
		for _, kind := range []int{0, 1} {
			h := handed(t, "a b\nc d\n")
			goesOn(t, h, "a b")
			c, _ := h.Get(name)
			sets(t, h, name, half())
			sets(t, h, "CONVFMT", str(wrong))
			for range 3 {
				if kind == 0 {
					goesNotOn(t, h, api.ErrFormat)
				} else {
					readsNot(t, h, 1, none(), false, api.ErrFormat)
				}
				recordIs(t, h, "a b")
				are(t, h, "NR", 1, "FNR", 1)
			}
			sets(t, h, name, c)
			goesOn(t, h, "c d")
			fieldsAre(t, h, "c", "d")
			are(t, h, "NR", 2, "FNR", 2)
			isOver(t, h)
		}
	}
	// FS is not asked for, unless the record is set.
	h := handed(t, "a b\n")
	sets(t, h, "FS", half())
	sets(t, h, "CONVFMT", str(wrong))
	reads(t, h, 1, none(), true, 1, str("a b"))
	isOver(t, h)
	reads(t, h, 1, none(), false, 0, none())
}

// P17.4: long records, and many of them.
func TestNextOfMany(t *testing.T) {
	long := strings.Repeat("some words and ", 3000)
	h := handed(t, strings.Repeat("x\n", 3000)+long+"\n"+long)
	for range 3000 {
		goesOn(t, h, "x")
	}
	goesOn(t, h, long)
	are(t, h, "NF", 9000)
	goesOn(t, h, long)
	isOver(t, h)
	are(t, h, "NR", 3002)
}

// P17.4, P17.7: a file that is closed has no reader any more: the next one is open
// then, or the same one anew.
func TestNextBehindClose(t *testing.T) {
	h, w := hostOf(t, api.Script{Files: files("f", "a\nb\n", "g", "c\nd\n"), Streams: 8}, "f", "g", "f")
	goesOn(t, h, "a")
	calls(t, h, "close", num(-1), str("g"))
	goesOn(t, h, "b")
	calls(t, h, "close", num(0), str("f"))
	goesOn(t, h, "c")
	are(t, h, "NR", 3, "FNR", 1)
	is(t, h, "FILENAME", str("g"))
	calls(t, h, "close", num(0), str("g"))
	goesOn(t, h, "a")
	are(t, h, "NR", 4, "FNR", 1)
	is(t, h, "FILENAME", str("f"))
	calls(t, h, "close", num(0), str("f"))
	isOver(t, h)
	traced(t, w, opened(api.InFile, "f"), closed(api.InFile, "f", 0), opened(api.InFile, "g"), closed(api.InFile, "g", 0), opened(api.InFile, "f"), closed(api.InFile, "f", 0))
}

// R3: the list of files is handed in, and may be turned behind that.
func TestFilesAreCopied(t *testing.T) {
	s := api.Script{Files: files("f", "a\n", "g", "b\n", "h", "c\n"), Streams: 8}
	l := []string{"f", "g", "h"}
	h, err := New(worldOf(t, s), l[:2])
	if err != api.OK {
		t.Fatal(err)
	}
	l[0], l[1] = "h", "missing"
	goesOn(t, h, "a")
	l[1] = "h"
	goesOn(t, h, "b")
	isOver(t, h)
	if l[0] != "h" || l[1] != "h" || l[2] != "h" {
		t.Error(l)
	}
}
