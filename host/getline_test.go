package host

import (
	"strings"
	"testing"

	"winnower/api"
)

// P17.4: there are no other kinds.
func TestGetlineOfNoKind(t *testing.T) {
	h, w := hostOf(t, api.Script{Stdin: "x\n", Files: files("f", "y\n"), Streams: 8})
	for _, kind := range []int{0, 4, -1, 5, 8, 9, 10, 11, 1 << 32, 1<<32 + 1, -1 << 63, 1<<63 - 1} {
		for _, into := range []bool{false, true} {
			readsNot(t, h, kind, str("f"), into, api.ErrArg)
			readsNot(t, h, kind, half(), into, api.ErrArg)
		}
	}
	traced(t, w)
	are(t, h, "NR", 0)
	recordIs(t, h, "")
}

// P17.4: of the main input it is as Next, but that with into the record stays.
func TestGetlineOfMain(t *testing.T) {
	for _, source := range someCells() {
		h, w := hostOf(t, api.Script{Files: files("f", "a b\n12\n", "g", "c d\n 13 \n"), Streams: 8}, "f", "none", "g")
		reads(t, h, 1, source, true, 1, str("a b"))
		recordIs(t, h, "")
		are(t, h, "NR", 1, "FNR", 1)
		is(t, h, "FILENAME", str("f"))
		reads(t, h, 1, source, false, 1, strNum("12", 12))
		isField(t, h, num(0), strNum("12", 12))
		are(t, h, "NR", 2, "FNR", 2)
		reads(t, h, 1, source, false, -1, none())
		isField(t, h, num(0), strNum("12", 12))
		are(t, h, "NR", 2)
		goesOn(t, h, "c d")
		reads(t, h, 1, source, true, 1, strNum(" 13 ", 13))
		recordIs(t, h, "c d")
		are(t, h, "NR", 4, "FNR", 2)
		for _, into := range []bool{false, true, false} {
			reads(t, h, 1, source, into, 0, none())
		}
		isOver(t, h)
		recordIs(t, h, "c d")
		are(t, h, "NR", 4, "FNR", 2)
		is(t, h, "FILENAME", str("g"))
		traced(t, w, opened(api.InFile, "f"), opened(api.InFile, "g"))
	}
}

// P17.4: what cannot be opened or read is -1, whatever the kind; too many streams
// are an error.
func TestGetlineFails(t *testing.T) {
	s := api.Script{Files: files("f", "a\n", "shut", "b\n", "torn", "c\n"), Replies: []api.Reply{{Command: "shut", Output: "d\n"}, {Command: "torn", Output: "e\n"}}, Fails: []api.Fail{{Op: 1, Name: "shut"}, {Op: 2, Name: "torn"}}, Streams: 3}
	for _, into := range []bool{false, true} {
		h, w := hostOf(t, s, "none", "shut", "torn")
		setsField(t, h, num(0), str("x"))
		for range 5 {
			reads(t, h, 1, none(), into, -1, none())
		}
		for range 3 {
			for _, name := range []string{"none", "shut", "torn"} {
				reads(t, h, 2, str(name), into, -1, none())
			}
			reads(t, h, 3, str("shut"), into, -1, none())
			reads(t, h, 3, str("torn"), into, -1, none())
		}
		reads(t, h, 3, str("none"), into, 0, none())
		readsNot(t, h, 2, str("f"), into, api.ErrStreams)
		readsNot(t, h, 3, str("f"), into, api.ErrStreams)
		reads(t, h, 2, str("torn"), into, -1, none())
		are(t, h, "NR", 0, "FNR", 0)
		recordIs(t, h, "x")
		traced(t, w, opened(api.InFile, "torn"), opened(api.InPipe, "torn"), opened(api.InPipe, "none"))
		calls(t, h, "close", num(0), str("none"))
		reads(t, h, 2, str("f"), into, 1, str("a"))
	}
}

// P17.4: of a file neither NR nor FNR turns.
func TestGetlineOfFile(t *testing.T) {
	s := api.Script{Files: files("f", "a b\n12\n\nc", "empty", ""), Stdin: "x y\n7\n", Streams: 8}
	h, w := hostOf(t, s)
	sets(t, h, "NR", str("n"))
	sets(t, h, "FNR", str("f"))
	reads(t, h, 2, str("f"), true, 1, str("a b"))
	recordIs(t, h, "")
	reads(t, h, 2, str("f"), false, 1, strNum("12", 12))
	isField(t, h, num(0), strNum("12", 12))
	are(t, h, "NF", 1)
	reads(t, h, 2, str("f"), false, 1, str(""))
	recordIs(t, h, "")
	are(t, h, "NF", 0)
	reads(t, h, 2, str("f"), false, 1, str("c"))
	for _, into := range []bool{false, true, false} {
		reads(t, h, 2, str("f"), into, 0, none())
		reads(t, h, 2, str("empty"), into, 0, none())
	}
	recordIs(t, h, "c")
	reads(t, h, 2, str("-"), false, 1, str("x y"))
	recordIs(t, h, "x y")
	reads(t, h, 2, str("-"), true, 1, strNum("7", 7))
	reads(t, h, 2, str("-"), true, 0, none())
	is(t, h, "NR", str("n"))
	is(t, h, "FNR", str("f"))
	is(t, h, "FILENAME", none())
	traced(t, w, opened(api.InFile, "f"), opened(api.InFile, "empty"), opened(api.InFile, "-"))
}

// P17.4: of a command NR turns, FNR does not.
func TestGetlineOfCommand(t *testing.T) {
	h, w := hostOf(t, api.Script{Replies: []api.Reply{{Command: "c", Output: "a b\n12\n\nd"}, {Command: "empty"}}, Streams: 8})
	sets(t, h, "NR", num(6.5))
	sets(t, h, "FNR", str("f"))
	reads(t, h, 3, str("c"), true, 1, str("a b"))
	recordIs(t, h, "")
	is(t, h, "NR", num(7.5))
	reads(t, h, 3, str("c"), false, 1, strNum("12", 12))
	isField(t, h, num(0), strNum("12", 12))
	sets(t, h, "NR", str("10 and"))
	reads(t, h, 3, str("c"), false, 1, str(""))
	are(t, h, "NR", 11, "NF", 0)
	reads(t, h, 3, str("c"), true, 1, str("d"))
	are(t, h, "NR", 12)
	for _, into := range []bool{false, true, false} {
		reads(t, h, 3, str("c"), into, 0, none())
		reads(t, h, 3, str("empty"), into, 0, none())
		reads(t, h, 3, str("none"), into, 0, none())
	}
	are(t, h, "NR", 12)
	recordIs(t, h, "")
	is(t, h, "FNR", str("f"))
	is(t, h, "FILENAME", none())
	traced(t, w, opened(api.InPipe, "c"), opened(api.InPipe, "empty"), opened(api.InPipe, "none"))
}

// P17.4: one name may be that of a file and of a command, each with a reader of
// its own; a name is a cell's text.
func TestGetlineOfBoth(t *testing.T) {
	s := api.Script{Files: files("12", "a\nb\n", "0.25", "e\n"), Replies: []api.Reply{{Command: "12", Output: "c\nd\n", Status: 4}, {Command: "0.2", Output: "g\n"}}, Streams: 8}
	h, w := hostOf(t, s)
	reads(t, h, 2, num(12), true, 1, str("a"))
	reads(t, h, 3, str("12"), true, 1, str("c"))
	reads(t, h, 2, strNum("12", 12), true, 1, str("b"))
	reads(t, h, 3, num(12), true, 1, str("d"))
	reads(t, h, 2, str("12"), true, 0, none())
	reads(t, h, 3, str("12"), true, 0, none())
	reads(t, h, 2, num(0.25), true, 1, str("e"))
	sets(t, h, "CONVFMT", str("%.1f"))
	reads(t, h, 3, num(0.25), true, 1, str("g"))
	reads(t, h, 2, num(0.25), true, -1, none())
	sets(t, h, "CONVFMT", str(wrong))
	for _, kind := range []int{2, 3} {
		readsNot(t, h, kind, num(0.25), true, api.ErrFormat)
		readsNot(t, h, kind, num(0.25), false, api.ErrFormat)
	}
	traced(t, w, opened(api.InFile, "12"), opened(api.InPipe, "12"), opened(api.InFile, "0.25"), opened(api.InPipe, "0.2"))
}

// P17.4, P17.7: what was closed is opened anew, from its begin on, but for what is
// handed in.
func TestGetlineBehindClose(t *testing.T) {
	first := strings.Repeat("x\n", 256)
	s := api.Script{Files: files("f", "a\nb\n"), Replies: []api.Reply{{Command: "f", Output: "c\nd\n", Status: 4}}, Stdin: first + "e\nf\n", Streams: 8}
	h, w := hostOf(t, s)
	for range 2 {
		reads(t, h, 2, str("f"), true, 1, str("a"))
		reads(t, h, 3, str("f"), true, 1, str("c"))
		calls(t, h, "close", num(4), str("f"))
		calls(t, h, "close", num(-1), str("f"))
	}
	for range 2 {
		reads(t, h, 2, str("f"), true, 1, str("a"))
		reads(t, h, 2, str("f"), true, 1, str("b"))
		reads(t, h, 2, str("f"), true, 0, none())
		calls(t, h, "close", num(0), str("f"))
	}
	// A file that was written meanwhile is as it is when it is opened.
	prints(t, h, 2, str("f"), false, str("z"))
	for _, want := range []string{"a", "b", "z"} {
		reads(t, h, 2, str("f"), true, 1, str(want))
	}
	prints(t, h, 2, str("f"), false, str("y"))
	reads(t, h, 2, str("f"), true, 0, none())
	calls(t, h, "close", num(0), str("f"))
	reads(t, h, 2, str("f"), true, 1, str("a"))
	// Of what is handed in the first piece is gone.
	reads(t, h, 2, str("-"), true, 1, str("x"))
	calls(t, h, "close", num(0), str("-"))
	reads(t, h, 2, str("-"), true, 1, str("e"))
	calls(t, h, "close", num(0), str("-"))
	reads(t, h, 2, str("-"), true, 0, none())
	both := []api.Event{opened(api.InFile, "f"), opened(api.InPipe, "f"), closed(api.InFile, "f", 0), closed(api.InPipe, "f", 4)}
	once := []api.Event{opened(api.InFile, "f"), closed(api.InFile, "f", 0)}
	events := append(append(append(append(both[:4:4], both...), once...), once...), opened(api.OutAppend, "f"), wrote(api.OutAppend, "f", "z\n"), opened(api.InFile, "f"), wrote(api.OutAppend, "f", "y\n"), closed(api.InFile, "f", 0), closed(api.OutAppend, "f", 0), opened(api.InFile, "f"), opened(api.InFile, "-"), closed(api.InFile, "-", 0), opened(api.InFile, "-"), closed(api.InFile, "-", 0), opened(api.InFile, "-"))
	traced(t, w, events...)
}

// P17.4: a stream that is open no more, and was not closed by close, is an error.
func TestGetlineBehindEnd(t *testing.T) {
	h, w := hostOf(t, api.Script{Files: files("f", "a\nb\n"), Replies: []api.Reply{{Command: "f", Output: "c\n"}}, Streams: 8})
	reads(t, h, 2, str("f"), true, 1, str("a"))
	reads(t, h, 3, str("f"), true, 1, str("c"))
	h.End()
	reads(t, h, 2, str("f"), true, 1, str("b"))
	for range 2 {
		readsNot(t, h, 2, str("f"), true, api.ErrStream)
		readsNot(t, h, 3, str("f"), false, api.ErrStream)
	}
	are(t, h, "NR", 1)
	calls(t, h, "close", num(-1), str("f"))
	reads(t, h, 2, str("f"), true, 1, str("a"))
	reads(t, h, 3, str("f"), true, 1, str("c"))
	if n := w.Streams(); n != 2 {
		t.Error(n)
	}
}

// P17.4: records by RS as it is, and fields by FS.
func TestGetlineByRS(t *testing.T) {
	text := "a:b;c\n\n\nd:e\nf"
	s := api.Script{Files: files("f", text), Replies: []api.Reply{{Command: "f", Output: text}}, Streams: 8}
	for _, kind := range []int{2, 3} {
		h, _ := hostOf(t, s)
		sets(t, h, "FS", str(":"))
		for _, x := range []struct {
			rs, want string
			fields   []string
		}{
			{";", "a:b", []string{"a", "b"}}, {"", "c", []string{"c"}}, {"", "d:e\nf", []string{"d", "e", "f"}},
		} {
			sets(t, h, "RS", str(x.rs))
			reads(t, h, kind, str("f"), false, 1, str(x.want))
			recordIs(t, h, x.want)
			fieldsAre(t, h, x.fields...)
		}
		reads(t, h, kind, str("f"), false, 0, none())
	}
}

// P17.4, R2: by what has no text no record is told, and none is gone.
func TestGetlineWithoutText(t *testing.T) {
	s := api.Script{Files: files("f", "a b\nc d\n"), Replies: []api.Reply{{Command: "f", Output: "a b\nc d\n"}}, Streams: 8}
	for _, kind := range []int{2, 3} {
		for _, name := range []string{"RS", "FS"} {
			h, _ := hostOf(t, s)
			reads(t, h, kind, str("f"), false, 1, str("a b"))
			c, _ := h.Get(name)
			sets(t, h, name, half())
			sets(t, h, "CONVFMT", str(wrong))
			for range 3 {
				readsNot(t, h, kind, str("f"), false, api.ErrFormat)
				if name == "RS" {
					readsNot(t, h, kind, str("f"), true, api.ErrFormat)
				}
				recordIs(t, h, "a b")
				are(t, h, "NR", kind-2)
			}
			sets(t, h, name, c)
			reads(t, h, kind, str("f"), false, 1, str("c d"))
			are(t, h, "NR", (kind-2)*2)
			reads(t, h, kind, str("f"), false, 0, none())
		}
		// FS is not asked for, unless the record is set.
		h, _ := hostOf(t, s)
		sets(t, h, "FS", half())
		sets(t, h, "CONVFMT", str(wrong))
		reads(t, h, kind, str("f"), true, 1, str("a b"))
		reads(t, h, kind, str("f"), true, 1, str("c d"))
		reads(t, h, kind, str("f"), false, 0, none())
	}
}
