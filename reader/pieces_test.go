package reader

import (
	"strings"
	"testing"

	"winnower/api"
)

// P10.2: pieces of 512 bytes are read, until there is a byte of RS.
func TestPieces(t *testing.T) {
	behind := bytesOf(3000)
	for _, n := range []int{0, 1, 2, 510, 511} {
		asked(t, bytesOf(n)+":"+behind, ":", 512)
	}
	for _, n := range []int{512, 513, 1022, 1023} {
		asked(t, bytesOf(n)+":"+behind, ":", 1024)
	}
	for _, n := range []int{1024, 1025, 1535} {
		asked(t, bytesOf(n)+":"+behind, ":", 1536)
	}
	asked(t, behind, ":", 3000)
}

// P10.2: of an empty RS they are read until there is the next record's first
// byte.
func TestPiecesOfEmptyLines(t *testing.T) {
	behind := bytesOf(3000)
	for _, at := range []struct {
		source string
		want   int
	}{
		{"x\n\ny", 512},
		{"x\n\n\n\n\ny", 512},
		{bytesOf(509) + "\n\ny", 512},
		{bytesOf(510) + "\n\ny", 1024},
		{bytesOf(510) + "\n\n\ny", 1024},
		{bytesOf(511) + "\n\ny", 1024},
		{bytesOf(512) + "\n\ny", 1024},
		{bytesOf(1021) + "\n\ny", 1024},
		{bytesOf(1022) + "\n\ny", 1536},
		{"x" + strings.Repeat("\n", 511) + "y", 1024},
		{"x" + strings.Repeat("\n", 1023) + "y", 1536},
		{strings.Repeat("\n", 508) + "x\n\ny", 512},
		{strings.Repeat("\n", 509) + "x\n\ny", 1024},
		{strings.Repeat("\n", 512) + "x\n\ny", 1024},
		{strings.Repeat("\n", 1100) + "x\n\ny", 1536},
		{"x\ny\nz\n\ny", 512},
		{bytesOf(511) + "\ny\n\ny", 1024},
		{"x\n\n", 512},
		{"x\n\n" + strings.Repeat("\n", 2000), 2048},
	} {
		asked(t, at.source+behind, "", at.want)
	}
	asked(t, "x"+strings.Repeat("\n", 3000), "", 3001)
	asked(t, strings.Repeat("x\n", 1500), "", 3000)
}

// P10.2: what was read already is asked for no more: behind so many records the
// pieces up to the end of the last one were read.
func TestNoPieceAhead(t *testing.T) {
	source := strings.Repeat("a:b\n\n", 300) + "c"
	for _, by := range []struct {
		rs     string
		behind int // which byte of five a record's end is known by
	}{{":", 1}, {"\n\n", 3}, {"\n", 3}, {"", 5}} {
		for n := 1; n < 300; n++ {
			w, r := handed(t, source)
			known := (n-1)*5 + by.behind
			if by.rs != "" && by.rs[0] == '\n' {
				known = (n-1)/2*5 + by.behind + (n-1)%2
			}
			for range n {
				r.Next(by.rs)
			}
			rest(t, w, api.InFile, "-", source[min(known/512*512+512, len(source)):])
			if t.Failed() {
				t.Fatalf("behind %d records by %q", n, by.rs)
			}
		}
	}
	source = "a:b\n\nc\n\nd" + bytesOf(600)
	w, r := handed(t, source)
	tells(t, r, ":", "a")
	tells(t, r, "", "b")
	tells(t, r, "\n", "c")
	tells(t, r, "\n", "")
	rest(t, w, api.InFile, "-", source[512:])
	tells(t, r, ":", source[8:512])
}

// A record that ends at a piece's end, and at the next one's begin.
func TestEndAtPieces(t *testing.T) {
	for n := 505; n < 1540; n++ {
		if n == 520 {
			n = 1017
		}
		if n == 1030 {
			n = 1530
		}
		records(t, bytesOf(n)+":y:", ":", bytesOf(n), "y")
		records(t, bytesOf(n)+"::"+bytesOf(n), ":", bytesOf(n), "", bytesOf(n))
		records(t, ":"+bytesOf(n), ":", "", bytesOf(n))
		records(t, bytesOf(n), ":", bytesOf(n))
		records(t, bytesOf(n)+"\n", "", bytesOf(n))
		records(t, bytesOf(n)+"\n\n", "", bytesOf(n))
		for _, lines := range []string{"\n\n", "\n\n\n", "\n\n\n\n"} {
			records(t, bytesOf(n)+lines+"y\nz\n", "", bytesOf(n), "y\nz")
			records(t, lines+bytesOf(n)+"\ny"+lines+bytesOf(n)+lines, "", bytesOf(n)+"\ny", bytesOf(n))
		}
	}
}

// P10.2: behind a piece of no bytes no more is read, be there more again.
func TestOverIsOver(t *testing.T) {
	w := worldOf(t, api.Script{Files: []api.Content{{Name: "f", Data: "a:b"}}, Streams: 2})
	r := readerOf(t, w, api.InFile, "f")
	tells(t, r, ":", "a")
	tells(t, r, ":", "b")
	w.Close("f")
	ends(t, r, ":")
	ends(t, r, "")
	w.Open(api.InFile, "f")
	ends(t, r, ":")
	ends(t, r, "")
	rest(t, w, api.InFile, "f", "a:b")
	// What is left when the last piece came is told without another one.
	late := readerOf(t, w, api.InPipe, "none")
	ends(t, late, "")
	r = readerOf(t, worldOf(t, api.Script{Stdin: "a:b:c", Streams: 1}), api.InFile, "-")
	tells(t, r, ":", "a")
	if _, _, err := r.Next("x"); err != api.OK {
		t.Error(err)
	}
	ends(t, r, ":")
}

// Behind the last piece a stream that was closed is no fault: what is left is
// told.
func TestClosedWhenOver(t *testing.T) {
	w, r := handed(t, "\n\na\n\n\n\n")
	tells(t, r, "\n", "")
	tells(t, r, "", "a")
	w.Close("-")
	ends(t, r, "")

	w, r = handed(t, "a:b\n\nc:d\n")
	tells(t, r, ":", "a")
	tells(t, r, "", "b")
	w.Close("-")
	// The last piece had bytes: of the record that ends here nobody knows.
	fails(t, r, "", api.ErrStream)
	tells(t, r, ":", "c")
	tells(t, r, "\n", "d")
	fails(t, r, "\n", api.ErrStream)
}

// Two readers of one stream share what it gives, piece by piece.
func TestTwoReaders(t *testing.T) {
	source := bytesOf(500) + ":" + strings.Repeat("y", 700) + ":z"
	w := worldOf(t, api.Script{Files: []api.Content{{Name: "f", Data: source}}, Streams: 1})
	one, other := readerOf(t, w, api.InFile, "f"), readerOf(t, w, api.InFile, "f")
	tells(t, one, ":", source[:500])
	tells(t, other, ":", source[512:1201])
	tells(t, one, ":", source[501:512])
	tells(t, other, ":", "z")
	ends(t, one, ":")
	ends(t, other, ":")
	if w.Streams() != 1 {
		t.Error(w.Streams())
	}
}

// A reader and the world of one stream.
func TestReaderAndWorld(t *testing.T) {
	source := "a:" + bytesOf(510) + "skip" + "b:c"
	w, r := handed(t, source)
	tells(t, r, ":", "a")
	if s, err := w.Read(api.InFile, "-", 4); s != "skip" || err != api.OK {
		t.Errorf("Read = %q, %d", s, err)
	}
	tells(t, r, ":", bytesOf(510)+"b")
	tells(t, r, ":", "c")
	ends(t, r, ":")
}

// A reader of another stream of the same name, and of another name, has its own.
func TestStreamsApart(t *testing.T) {
	w := worldOf(t, api.Script{
		Stdin:   "in:1",
		Files:   []api.Content{{Name: "f", Data: "file:2"}},
		Replies: []api.Reply{{Command: "f", Output: "reply:3"}, {Command: "-", Output: "dash:4"}},
		Streams: 4,
	})
	file, reply := readerOf(t, w, api.InFile, "f"), readerOf(t, w, api.InPipe, "f")
	in, dash := readerOf(t, w, api.InFile, "-"), readerOf(t, w, api.InPipe, "-")
	tells(t, dash, ":", "dash")
	tells(t, file, ":", "file")
	tells(t, in, ":", "in")
	tells(t, reply, ":", "reply")
	tells(t, in, ":", "1")
	tells(t, reply, ":", "3")
	ends(t, in, ":")
	tells(t, file, ":", "2")
	tells(t, dash, ":", "4")
	ends(t, dash, ":")
	ends(t, reply, ":")
	ends(t, file, ":")
}

// A file that is written while it is read gives what it had when it was opened.
func TestWrittenWhileRead(t *testing.T) {
	w := worldOf(t, api.Script{Files: []api.Content{{Name: "f", Data: "a\nb"}}, Streams: 3})
	r := readerOf(t, w, api.InFile, "f")
	tells(t, r, "\n", "a")
	w.Open(api.OutAppend, "f")
	w.Write(api.OutAppend, "f", "c\nd")
	tells(t, r, "\n", "b")
	ends(t, r, "\n")
	w.Close("f")
	r = readerOf(t, w, api.InFile, "f")
	w.Open(api.OutFile, "f")
	w.Write(api.OutFile, "f", "new")
	tells(t, r, "\n", "a")
	tells(t, r, "\n", "bc")
	tells(t, r, "\n", "d")
	ends(t, r, "\n")
	w.Close("f")
	r = readerOf(t, w, api.InFile, "f")
	tells(t, r, "\n", "new")
	ends(t, r, "\n")
}
