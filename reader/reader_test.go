package reader

import (
	"slices"
	"strconv"
	"strings"
	"testing"

	"winnower/api"
	"winnower/world"
)

// newFails says that New tells an error, and that the world stays as it is.
func newFails(t *testing.T, w *world.World, k api.StreamKind, name string, want api.Errno) {
	t.Helper()
	streams, events := w.Streams(), len(w.Trace())
	if r, err := New(w, k, name); r != nil || err != want {
		t.Errorf("New(%d, %q) = %v, %d; want error %d", k, name, r, err, want)
	}
	if w.Streams() != streams || len(w.Trace()) != events {
		t.Errorf("New(%d, %q) turned the world", k, name)
	}
}

// P10.1: ErrArg, unless the kind is InFile or InPipe.
func TestNewKinds(t *testing.T) {
	w := worldOf(t, api.Script{Stdin: "a\n", Files: []api.Content{{Name: "f", Data: "b\n"}}, Streams: 16})
	for k := range 256 {
		kind := api.StreamKind(k)
		if kind == api.InFile || kind == api.InPipe {
			continue
		}
		for _, name := range []string{"-", "f", "none", ""} {
			newFails(t, w, kind, name, api.ErrArg)
		}
	}
	tells(t, readerOf(t, w, api.InFile, "f"), "\n", "b")
	ends(t, readerOf(t, w, api.InPipe, "f"), "\n")
	tells(t, readerOf(t, w, api.InFile, "-"), "\n", "a")
	ends(t, readerOf(t, w, api.InPipe, "-"), "\n")
	newFails(t, w, api.InFile, "none", api.ErrOpen)
}

// P10.1: World.Open's errors.
func TestNewErrors(t *testing.T) {
	files := []api.Content{{Name: "f"}, {Name: "bad"}}
	w := worldOf(t, api.Script{Files: files, Fails: []api.Fail{{Op: 1, Name: "bad"}, {Op: 2, Name: "f"}}, Streams: 1})
	newFails(t, w, api.InFile, "none", api.ErrOpen)
	newFails(t, w, api.InFile, "bad", api.ErrOpen)
	newFails(t, w, api.InPipe, "bad", api.ErrOpen)
	readerOf(t, w, api.InFile, "f")
	newFails(t, w, api.InFile, "-", api.ErrStreams)
	newFails(t, w, api.InFile, "none", api.ErrStreams)
	newFails(t, w, api.InPipe, "bad", api.ErrStreams)
	newFails(t, w, api.InPipe, "f", api.ErrStreams)
	readerOf(t, w, api.InFile, "f")
}

// Of two errors ErrArg counts.
func TestNewBothWrong(t *testing.T) {
	files := []api.Content{{Name: "bad"}}
	w := worldOf(t, api.Script{Files: files, Fails: []api.Fail{{Op: 1, Name: "bad"}}})
	of := *w
	for _, k := range []api.StreamKind{0, api.OutFile, api.OutAppend, api.OutPipe, api.Stdout, 7, 255} {
		newFails(t, nil, k, "f", api.ErrArg)
		newFails(t, &world.World{}, k, "f", api.ErrArg)
		newFails(t, &of, k, "f", api.ErrArg)
		newFails(t, w, k, "bad", api.ErrArg)
		newFails(t, w, k, "none", api.ErrArg)
	}
	for _, k := range []api.StreamKind{api.InFile, api.InPipe} {
		newFails(t, nil, k, "f", api.ErrNil)
		newFails(t, &world.World{}, k, "f", api.ErrNil)
		newFails(t, &of, k, "f", api.ErrNil)
		newFails(t, w, k, "bad", api.ErrStreams)
	}
}

// P10.1: a stream is opened, if it is not open, and nothing is read.
func TestNewOpens(t *testing.T) {
	w := worldOf(t, api.Script{Stdin: "in", Replies: []api.Reply{{Command: "-", Output: "out", Status: 1}}, Streams: 2})
	for range 2 {
		readerOf(t, w, api.InFile, "-")
		readerOf(t, w, api.InPipe, "-")
	}
	want := []api.Event{{Kind: api.EvOpen, Stream: api.InFile, Name: "-"}, {Kind: api.EvOpen, Stream: api.InPipe, Name: "-"}}
	if got := w.Trace(); !slices.Equal(got, want) {
		t.Errorf("Trace() = %+v", got)
	}
	rest(t, w, api.InFile, "-", "in")
	rest(t, w, api.InPipe, "-", "out")
	w.Close("-")
	if w.IsOpen(api.InFile, "-") || w.IsOpen(api.InPipe, "-") {
		t.Error("a reader holds its stream open")
	}
}

// Chapter 10, examples.
func TestExamples(t *testing.T) {
	records(t, "a:b::c", ":", "a", "b", "", "c")
	records(t, "x\n", "\n", "x")
	records(t, "\n\na\nb\n\n\nc\n", "", "a\nb", "c")
	_, r := handed(t, "ab,c\nd")
	tells(t, r, ",", "ab")
	tells(t, r, "\n", "c")
	tells(t, r, "\n", "d")
	ends(t, r, "\n")
}

// P10.2: records by a byte, at the ends of what there may be.
func TestByByte(t *testing.T) {
	for _, rs := range []string{"\n", ":", "a", "\x00", "\xff", "é"} {
		records(t, "", rs)
		records(t, "x", rs, "x")
		records(t, "xyz", rs, "xyz")
		end := rs[:1]
		records(t, end, rs, "")
		records(t, "x"+end, rs, "x")
		records(t, end+"x", rs, "", "x")
		records(t, end+end+end, rs, "", "", "")
		records(t, end+"x"+end+end+"y"+end+end, rs, "", "x", "", "y", "")
		records(t, "x"+end+"y", rs, "x", "y")
	}
}

// P10.2: any byte ends a record, and no other one does.
func TestEachByte(t *testing.T) {
	var every []byte
	for b := range 256 {
		every = append(every, byte(b))
	}
	source := string(every) + string(every)
	for b := range 256 {
		rs := source[b : b+1]
		want := strings.Split(source, rs)
		if want[2] == "" {
			want = want[:2]
		}
		records(t, source, rs, want...)
		records(t, source, rs+"x\n"+rs, want...)
	}
}

// P10.2: of more bytes the first one counts.
func TestFirstByteCounts(t *testing.T) {
	records(t, "a:b;c:;d", ":;", "a", "b;c", ";d")
	records(t, "a\n\nb", "\n\n", "a", "", "b")
	records(t, "a\nb", "\nb", "a", "b")
	records(t, "abab", "ba", "a", "a")
	records(t, "a\x00b", "\x00", "a", "b")
	records(t, "aéb", "é", "a", "\xa9b")
	records(t, "ab", "ab"+bytesOf(2000), "", "b")
}

// P10.2: records by an empty RS.
func TestByEmptyLines(t *testing.T) {
	records(t, "", "")
	records(t, "x", "", "x")
	for _, lines := range []string{"\n", "\n\n", "\n\n\n", strings.Repeat("\n", 700)} {
		records(t, lines, "")
		records(t, lines+"x", "", "x")
		records(t, "x"+lines, "", "x")
		records(t, lines+"x"+lines, "", "x")
		records(t, lines+"x\ny"+lines, "", "x\ny")
	}
	for _, lines := range []string{"\n\n", "\n\n\n", "\n\n\n\n", strings.Repeat("\n", 1100)} {
		records(t, "x"+lines+"y", "", "x", "y")
		records(t, "x\ny"+lines+"z\n", "", "x\ny", "z")
		records(t, lines+"x"+lines+"y"+lines, "", "x", "y")
	}
	records(t, "x\ny\nz", "", "x\ny\nz")
	records(t, "x\n\x00\n\xff\n \n\r\n\ny", "", "x\n\x00\n\xff\n \n\r", "y")
	records(t, " \n\n\t", "", " ", "\t")
}

// P10.2: RS may be another one for each record.
func TestRSTurns(t *testing.T) {
	_, r := handed(t, "\n\na b\n\n\nc\n\n\nd e\n\n")
	tells(t, r, "\n", "")
	tells(t, r, " ", "\na")
	tells(t, r, "\n", "b")
	tells(t, r, "", "c")
	tells(t, r, " ", "d")
	tells(t, r, "\n", "e")
	tells(t, r, "\n", "")
	ends(t, r, " ")

	_, r = handed(t, "a\n\n\n\nb\n\n")
	tells(t, r, "", "a")
	tells(t, r, "b", "")
	ends(t, r, "")
	ends(t, r, "\n")

	_, r = handed(t, "a\n")
	tells(t, r, "", "a")
	ends(t, r, "\n")

	_, r = handed(t, "\n\n\n")
	tells(t, r, "x", "\n\n\n")
	ends(t, r, "")

	_, r = handed(t, "\n\n\n")
	tells(t, r, "\n", "")
	ends(t, r, "")
	ends(t, r, "\n")
}

// P10.3: records by a byte, that byte between them, are what the stream gives,
// but for one at its end.
func TestWhole(t *testing.T) {
	random := seeded()
	for range 300 {
		source := sourceOf(random)
		rs := string([]byte{"\nab\xff"[random.Intn(4)]})
		_, r := handed(t, source)
		var every []string
		for {
			s, ok, err := r.Next(rs)
			if err != api.OK {
				t.Fatal(err)
			}
			if !ok {
				break
			}
			every = append(every, s)
		}
		if got := strings.Join(every, rs); got != source && got+rs != source || len(every) == 0 && source != "" {
			t.Fatalf("%q by %q is %q", short(source), rs, short(got))
		}
	}
}

// A record of many pieces, and many records of a piece, are told in no time that
// grows with their square.
func TestLong(t *testing.T) {
	long := bytesOf(8 << 20)
	records(t, long+"\ny", "\n", long, "y")
	records(t, "\n"+long+"\n\ny", "", long, "y")
	records(t, strings.Repeat("\n", 8<<20)+"x"+strings.Repeat("\n", 8<<20)+"y", "", "x", "y")
	lines := strings.Repeat("x\n", 1<<20)
	records(t, lines, "", lines[:len(lines)-1])
	_, r := handed(t, strings.Repeat(":", 1<<20))
	for range 1 << 20 {
		if s, ok, err := r.Next(":"); s != "" || !ok || err != api.OK {
			t.Fatal(s, ok, err)
		}
	}
	ends(t, r, ":")
}

// R4: two readers of two worlds of one script tell the same.
func TestSameAgain(t *testing.T) {
	run := func() string {
		_, r := handed(t, strings.Repeat("a\nbc\n\n\nd:e", 300))
		var told strings.Builder
		for i := range 500 {
			s, ok, err := r.Next([]string{"", "\n", ":", "x\x00"}[i%4])
			told.WriteString(strconv.Quote(s) + strconv.FormatBool(ok) + strconv.Itoa(int(err)))
		}
		return told.String()
	}
	if run() != run() {
		t.Error("told twice, told differently")
	}
}
