package world

import (
	"math"
	"strconv"
	"strings"
	"testing"

	"winnower/api"
)

// P7.2: kinds of which no stream may be opened, read, written or closed.
func TestNoKinds(t *testing.T) {
	w := made(t, api.Script{Files: []api.Content{{Name: "f", Data: "ab"}, {Name: ""}}, Fails: append(fails(1, "no"), fails(2, "f")...), Streams: 5})
	for range 2 {
		for _, k := range noKinds() {
			for _, name := range []string{"f", "", "-", "no", "x"} {
				opens(t, w, k, name, api.ErrArg)
				for _, n := range []int{-1, 0, 1} {
					readsNot(t, w, k, name, n, api.ErrStream)
				}
				if k != api.Stdout {
					writes(t, w, k, name, "x", api.ErrStream)
					writes(t, w, k, name, "", api.ErrStream)
				}
				if w.IsOpen(k, name) != (k == api.Stdout) {
					t.Errorf("IsOpen(%d, %q)", k, name)
				}
			}
		}
		// The same, when all streams of the name are open, and no other may be.
		for _, k := range kinds() {
			opens(t, w, k, "f", api.OK)
		}
	}
	count(t, w, 5)
	closes(t, w, "f", 0)
	closesNot(t, w, "")
	isOpen(t, w, "f")
}

// P7.2: each kind is opened, whether there is a file or a reply of that name,
// or not.
func TestOpen(t *testing.T) {
	for _, name := range []string{"f", "", "-", "c", "none"} {
		for _, k := range kinds() {
			w := made(t, api.Script{Files: []api.Content{{Name: "f", Data: "ab"}}, Replies: []api.Reply{{Command: "c", Output: "out"}}, Stdin: "in", Streams: 1})
			if k == api.InFile && name != "f" && name != "-" {
				opens(t, w, k, name, api.ErrOpen)
				opens(t, w, k, name, api.ErrOpen)
				isOpen(t, w, name)
				count(t, w, 0)
				traced(t, w)
				continue
			}
			opens(t, w, k, name, api.OK)
			isOpen(t, w, name, k)
			isOpen(t, w, name+" ")
			count(t, w, 1)
			traced(t, w, opened(k, name))
			switch {
			case k == api.OutFile:
				holds(t, w, name, "")
			case name == "f":
				holds(t, w, name, "ab")
			case k == api.OutAppend:
				holds(t, w, name, "")
			default:
				holdsNot(t, w, name)
			}
		}
	}
}

// P7.2: what is open is opened again: nothing happens.
func TestOpenAgain(t *testing.T) {
	w := made(t, api.Script{Files: []api.Content{{Name: "f", Data: "abc"}}, Replies: []api.Reply{{Command: "f", Output: "xyz"}}, Stdin: "in", Streams: 5})
	events := []api.Event{}
	for _, k := range []api.StreamKind{api.OutAppend, api.InFile, api.InPipe, api.OutPipe, api.OutFile} {
		opens(t, w, k, "f", api.OK)
		events = append(events, opened(k, "f"))
	}
	writes(t, w, api.OutFile, "f", "new", api.OK)
	writes(t, w, api.OutAppend, "f", "er", api.OK)
	reads(t, w, api.InFile, "f", 1, "a")
	reads(t, w, api.InPipe, "f", 2, "xy")
	for range 3 {
		for _, k := range kinds() {
			opens(t, w, k, "f", api.OK)
			opens(t, w, k, "-", api.ErrStreams)
		}
	}
	count(t, w, 5)
	holds(t, w, "f", "newer")
	reads(t, w, api.InFile, "f", 1, "b")
	reads(t, w, api.InPipe, "f", 2, "z")
	isOpen(t, w, "f", kinds()...)
	isOpen(t, w, "-")
	traced(t, w, append(events, wrote(api.OutFile, "f", "new"), wrote(api.OutAppend, "f", "er"))...)
}

// P7.2: as many streams as may be.
func TestManyStreams(t *testing.T) {
	for most := range api.MaxStreams + 1 {
		w := made(t, api.Script{Fails: fails(1, "no"), Streams: most})
		for i := range most {
			count(t, w, i)
			opens(t, w, kinds()[1+i%4], strconv.Itoa(i), api.OK)
		}
		for range 2 {
			count(t, w, most)
			for _, k := range kinds() {
				// Too many counts ahead of what fails.
				for _, name := range []string{"more", "no", "-", ""} {
					opens(t, w, k, name, api.ErrStreams)
				}
			}
			opens(t, w, 0, "more", api.ErrArg)
			opens(t, w, api.Stdout, "", api.ErrArg)
			for i := range most {
				opens(t, w, kinds()[1+i%4], strconv.Itoa(i), api.OK)
			}
		}
		// Stdout counts to no limit.
		writes(t, w, api.Stdout, "", "x", api.OK)
		if len(w.Trace()) != most+1 {
			t.Errorf("a trace of %d events", len(w.Trace()))
		}
		if most == 0 {
			continue
		}
		// What was closed makes room for one.
		closes(t, w, "0", 0)
		count(t, w, most-1)
		opens(t, w, api.OutFile, "no", api.ErrOpen)
		opens(t, w, api.InFile, "more", api.ErrOpen)
		opens(t, w, api.OutAppend, "more", api.OK)
		opens(t, w, api.InFile, "more", api.ErrStreams)
		opens(t, w, kinds()[1], "0", api.ErrStreams)
		count(t, w, most)
		w.CloseAll()
		count(t, w, 0)
		opens(t, w, api.InPipe, "0", api.OK)
	}
}

// P7.2, P7.3: each Op fails of its name alone, and of all kinds of it.
func TestFails(t *testing.T) {
	script := func(op uint8, names ...string) api.Script {
		return api.Script{Files: []api.Content{{Name: "f", Data: "ab"}, {Name: ""}}, Replies: []api.Reply{{Command: "f", Output: "cd", Status: 3}}, Stdin: "in", Fails: fails(op, names...), Streams: 16}
	}
	for _, name := range []string{"f", "", "-"} {
		others := []string{"x", name + " ", "F", "no", name + name + "\x00"}
		for _, op := range []uint8{0, 1, 2, 3, 4, 5, 128, 255} {
			for of, w := range map[string]*World{"others": made(t, script(op, others...)), "it": made(t, script(op, append(others, name)...))} {
				fail := func(this uint8, err api.Errno) api.Errno {
					if of == "it" && op == this {
						return err
					}
					return api.OK
				}
				for _, k := range kinds() {
					opens(t, w, k, name, fail(1, api.ErrOpen))
				}
				if fail(1, api.ErrOpen) != api.OK {
					count(t, w, 0)
					isOpen(t, w, name)
					traced(t, w)
					continue
				}
				for _, k := range kinds()[:2] {
					if _, err := w.Read(k, name, 1); err != fail(2, api.ErrRead) {
						t.Errorf("a read of %q with a Fail of %d of %s: %d", name, op, of, err)
					}
				}
				for _, k := range kinds()[2:] {
					writes(t, w, k, name, "x", fail(3, api.ErrWrite))
				}
				if _, err := w.System(name); err != fail(4, api.ErrOpen) {
					t.Errorf("the command %q with a Fail of %d of %s: %d", name, op, of, err)
				}
			}
		}
	}
}

// P7.2: what fails to be opened fails again, whatever else is open.
func TestOpenFails(t *testing.T) {
	w := made(t, api.Script{Files: []api.Content{{Name: "f", Data: "ab"}}, Stdin: "in", Fails: fails(1, "f", "-"), Streams: 2})
	opens(t, w, api.InFile, "-", api.ErrOpen)
	opens(t, w, api.OutFile, "f", api.ErrOpen)
	opens(t, w, api.OutFile, "g", api.OK)
	opens(t, w, api.InFile, "-", api.ErrOpen)
	opens(t, w, api.OutAppend, "f", api.ErrOpen)
	opens(t, w, api.OutPipe, "h", api.OK)
	opens(t, w, api.InFile, "-", api.ErrStreams)
	closes(t, w, "h", 0)
	opens(t, w, api.InFile, "-", api.ErrOpen)
	readsNot(t, w, api.InFile, "-", 1, api.ErrStream)
	closesNot(t, w, "-")
	traced(t, w, opened(api.OutFile, "g"), opened(api.OutPipe, "h"), closed(api.OutPipe, "h", 0))
}

// P7.3: reads of all numbers of bytes.
func TestRead(t *testing.T) {
	source := "ab\x00c\nd\xff"
	for _, name := range []string{"f", "-", "c"} {
		k := api.InFile
		if name == "c" {
			k = api.InPipe
		}
		script := api.Script{Files: []api.Content{{Name: "f", Data: source}, {Name: "-", Data: "the file"}, {Name: "c", Data: "a file"}}, Stdin: source, Replies: []api.Reply{{Command: "c", Output: source}, {Command: "f", Output: "a reply"}, {Command: "-", Output: "a reply"}}, Streams: 1}
		for n := 1; n <= len(source)+1; n++ {
			w := made(t, script)
			opens(t, w, k, name, api.OK)
			for at := 0; at < len(source); at += n {
				reads(t, w, k, name, n, source[at:min(at+n, len(source))])
			}
			for range 2 {
				reads(t, w, k, name, n, "")
				reads(t, w, k, name, 1, "")
				reads(t, w, k, name, math.MaxInt, "")
			}
			traced(t, w, opened(k, name))
		}
		w := made(t, script)
		readsNot(t, w, k, name, 1, api.ErrStream)
		opens(t, w, k, name, api.OK)
		reads(t, w, k, name, 3, "ab\x00")
		for _, n := range []int{0, -1, -2, -1 << 32, math.MinInt} {
			readsNot(t, w, k, name, n, api.ErrArg)
			readsNot(t, w, k, "other", n, api.ErrStream)
		}
		reads(t, w, k, name, 1, "c")
		reads(t, w, k, name, math.MaxInt, "\nd\xff")
		for _, n := range []int{0, -1, math.MinInt} {
			readsNot(t, w, k, name, n, api.ErrArg)
		}
		reads(t, w, k, name, 1, "")
		closes(t, w, name, 0)
		readsNot(t, w, k, name, 1, api.ErrStream)
		readsNot(t, w, k, name, 0, api.ErrStream)
	}
}

// P7.3: a read is of one kind, and the others of that name don't stand in.
func TestReadOfKind(t *testing.T) {
	for _, k := range kinds() {
		w := made(t, api.Script{Files: []api.Content{{Name: "f", Data: "ab"}}, Replies: []api.Reply{{Command: "f", Output: "cd"}}, Streams: 1})
		opens(t, w, k, "f", api.OK)
		for _, other := range append(kinds(), noKinds()...) {
			switch {
			case k == other && k == api.InFile:
				reads(t, w, k, "f", 2, "ab")
			case k == other && k == api.InPipe:
				reads(t, w, k, "f", 2, "cd")
			default:
				readsNot(t, w, other, "f", 2, api.ErrStream)
				readsNot(t, w, other, "f", 0, api.ErrStream)
			}
		}
	}
	// Both at once, each from its own place on.
	w := made(t, api.Script{Files: []api.Content{{Name: "f", Data: "abc"}}, Replies: []api.Reply{{Command: "f", Output: "xyz"}}, Streams: 5})
	for _, k := range kinds()[:2] {
		opens(t, w, k, "f", api.OK)
	}
	reads(t, w, api.InFile, "f", 1, "a")
	reads(t, w, api.InPipe, "f", 2, "xy")
	reads(t, w, api.InFile, "f", 1, "b")
	reads(t, w, api.InPipe, "f", 2, "z")
	reads(t, w, api.InFile, "f", 2, "c")
}

// P7.3, R2: a read that fails takes nothing.
func TestReadFails(t *testing.T) {
	w := made(t, api.Script{Files: []api.Content{{Name: "f", Data: "ab"}}, Stdin: "in", Fails: append(fails(2, "f", "-"), fails(2, "f")...), Streams: 5})
	for _, name := range []string{"f", "-"} {
		readsNot(t, w, api.InFile, name, 1, api.ErrStream)
		opens(t, w, api.InFile, name, api.OK)
		for range 3 {
			readsNot(t, w, api.InFile, name, 0, api.ErrArg)
			readsNot(t, w, api.InFile, name, 1, api.ErrRead)
		}
		// Of no other kind, and of no writing.
		opens(t, w, api.OutAppend, name, api.OK)
		writes(t, w, api.OutAppend, name, "x", api.OK)
	}
	holds(t, w, "f", "abx")
	holds(t, w, "-", "x")
	count(t, w, 4)
}

// P7.3: pipes give a command's reply, from its begin on each time.
func TestReadOfPipe(t *testing.T) {
	w := made(t, api.Script{Files: []api.Content{{Name: "none", Data: "a file"}}, Replies: []api.Reply{{Command: "c", Output: "abc", Status: 2}, {Command: "silent", Status: 1}, {Command: "", Output: "nameless"}}, Stdin: "in", Streams: 9})
	for range 3 {
		opens(t, w, api.InPipe, "c", api.OK)
		reads(t, w, api.InPipe, "c", 2, "ab")
		closes(t, w, "c", 2)
	}
	for _, name := range []string{"silent", "none", "-"} {
		opens(t, w, api.InPipe, name, api.OK)
		reads(t, w, api.InPipe, name, 9, "")
	}
	opens(t, w, api.InPipe, "", api.OK)
	reads(t, w, api.InPipe, "", 9, "nameless")
}

// P7.3: what is handed in is given once, by whatever stream.
func TestHandedIn(t *testing.T) {
	w := made(t, api.Script{Files: []api.Content{{Name: "-", Data: "a file"}}, Replies: []api.Reply{{Command: "-", Output: "out", Status: 7}}, Stdin: "abcdef", Streams: 5})
	opens(t, w, api.InFile, "-", api.OK)
	reads(t, w, api.InFile, "-", 2, "ab")
	closes(t, w, "-", 0)
	readsNot(t, w, api.InFile, "-", 1, api.ErrStream)
	opens(t, w, api.InFile, "-", api.OK)
	opens(t, w, api.InFile, "-", api.OK)
	reads(t, w, api.InFile, "-", 1, "c")
	w.CloseAll()
	opens(t, w, api.InFile, "-", api.OK)
	closes(t, w, "-", 0)
	// A file, a pipe of that name are others.
	for _, k := range kinds() {
		opens(t, w, k, "-", api.OK)
	}
	holds(t, w, "-", "")
	writes(t, w, api.OutFile, "-", "x", api.OK)
	writes(t, w, api.OutAppend, "-", "y", api.OK)
	writes(t, w, api.OutPipe, "-", "z", api.OK)
	holds(t, w, "-", "xy")
	reads(t, w, api.InPipe, "-", 9, "out")
	reads(t, w, api.InFile, "-", 9, "def")
	reads(t, w, api.InFile, "-", 9, "")
	closes(t, w, "-", 7)
	opens(t, w, api.InFile, "-", api.OK)
	reads(t, w, api.InFile, "-", 9, "")
	// Nothing at all is handed in.
	w = made(t, api.Script{Files: []api.Content{{Name: "-", Data: "a file"}}, Streams: 5})
	opens(t, w, api.InFile, "-", api.OK)
	reads(t, w, api.InFile, "-", 9, "")
}

// P7.3: the empty name is a name like others.
func TestEmptyName(t *testing.T) {
	w := made(t, api.Script{Files: []api.Content{{Name: "", Data: "ab"}}, Replies: []api.Reply{{Command: "", Output: "cd", Status: 5}}, Stdin: "in", Streams: 5})
	var events []api.Event
	for _, k := range kinds() {
		opens(t, w, k, "", api.OK)
		events = append(events, opened(k, ""))
	}
	isOpen(t, w, "", kinds()...)
	reads(t, w, api.InFile, "", 9, "ab")
	reads(t, w, api.InPipe, "", 9, "cd")
	for _, k := range []api.StreamKind{api.OutFile, api.OutAppend, api.OutPipe, api.Stdout} {
		writes(t, w, k, "", "x", api.OK)
		events = append(events, wrote(k, "", "x"))
	}
	holds(t, w, "", "xx")
	closes(t, w, "", 5)
	for i, k := range kinds() {
		events = append(events, closed(k, "", []int{0, 5, 0, 0, 5}[i]))
	}
	isOpen(t, w, "")
	writes(t, w, api.Stdout, "", "y", api.OK)
	closesNot(t, w, "")
	traced(t, w, append(events, wrote(api.Stdout, "", "y"))...)
}

// P7.3: a file gives what it had when it was opened, whatever is written to it.
func TestFileReadWhileWritten(t *testing.T) {
	w := made(t, api.Script{Files: []api.Content{{Name: "f", Data: "abcdef"}}, Streams: 5})
	opens(t, w, api.InFile, "f", api.OK)
	reads(t, w, api.InFile, "f", 1, "a")
	opens(t, w, api.OutAppend, "f", api.OK)
	writes(t, w, api.OutAppend, "f", "ghi", api.OK)
	reads(t, w, api.InFile, "f", 1, "b")
	opens(t, w, api.OutFile, "f", api.OK)
	holds(t, w, "f", "")
	reads(t, w, api.InFile, "f", 1, "c")
	writes(t, w, api.OutFile, "f", "ABCDEFGHIJ", api.OK)
	writes(t, w, api.OutAppend, "f", "KL", api.OK)
	holds(t, w, "f", "ABCDEFGHIJKL")
	reads(t, w, api.InFile, "f", 99, "def")
	reads(t, w, api.InFile, "f", 99, "")
	closes(t, w, "f", 0)
	opens(t, w, api.InFile, "f", api.OK)
	reads(t, w, api.InFile, "f", 99, "ABCDEFGHIJKL")
	// What is written to a file that has none of it yet is not given, either.
	opens(t, w, api.OutAppend, "g", api.OK)
	holds(t, w, "g", "")
	opens(t, w, api.InFile, "g", api.OK)
	writes(t, w, api.OutAppend, "g", "x", api.OK)
	reads(t, w, api.InFile, "g", 9, "")
	holds(t, w, "g", "x")
	// Nor what was told as the file's bytes.
	told, _ := w.File("f")
	opens(t, w, api.OutFile, "f", api.OK)
	writes(t, w, api.OutFile, "f", "zzzzzzzzzzzz", api.OK)
	if told != "ABCDEFGHIJKL" {
		t.Errorf("what was told as a file became %q", told)
	}
}

// P7.2, P7.3: a file is written anew, or behind its end.
func TestWrite(t *testing.T) {
	w := made(t, api.Script{Files: []api.Content{{Name: "f", Data: "ab"}}, Streams: 5})
	opens(t, w, api.OutAppend, "f", api.OK)
	holds(t, w, "f", "ab")
	writes(t, w, api.OutAppend, "f", "c", api.OK)
	closes(t, w, "f", 0)
	opens(t, w, api.OutAppend, "f", api.OK)
	writes(t, w, api.OutAppend, "f", "\x00\xff", api.OK)
	holds(t, w, "f", "abc\x00\xff")
	closes(t, w, "f", 0)
	for _, data := range []string{"1", "22", ""} {
		opens(t, w, api.OutFile, "f", api.OK)
		holds(t, w, "f", "")
		writes(t, w, api.OutFile, "f", data, api.OK)
		opens(t, w, api.OutFile, "f", api.OK)
		writes(t, w, api.OutFile, "f", data, api.OK)
		holds(t, w, "f", data+data)
		closes(t, w, "f", 0)
		holds(t, w, "f", data+data)
	}
	// Files that are made.
	for i, k := range []api.StreamKind{api.OutFile, api.OutAppend} {
		name := strconv.Itoa(i)
		holdsNot(t, w, name)
		opens(t, w, k, name, api.OK)
		holds(t, w, name, "")
		writes(t, w, k, name, name, api.OK)
		holds(t, w, name, name)
		opens(t, w, api.InFile, name, api.OK)
		reads(t, w, api.InFile, name, 9, name)
	}
	// A pipe writes to no file.
	opens(t, w, api.OutPipe, "p", api.OK)
	writes(t, w, api.OutPipe, "p", "x", api.OK)
	holdsNot(t, w, "p")
	closes(t, w, "p", 0)
	opens(t, w, api.OutPipe, "f", api.OK)
	writes(t, w, api.OutPipe, "f", "x", api.OK)
	holds(t, w, "f", "")
}

// P7.3: a write is of one kind, and the others of that name don't stand in.
func TestWriteOfKind(t *testing.T) {
	for _, k := range kinds() {
		w := made(t, api.Script{Files: []api.Content{{Name: "f"}}, Streams: 1})
		opens(t, w, k, "f", api.OK)
		events := []api.Event{opened(k, "f")}
		for _, other := range append(kinds(), noKinds()...) {
			want := api.ErrStream
			switch {
			case other == api.Stdout:
				want = api.OK
				events = append(events, wrote(other, "", "x"))
			case other == k && k >= api.OutFile:
				want = api.OK
				events = append(events, wrote(other, "f", "x"))
			}
			writes(t, w, other, "f", "x", want)
			writes(t, w, other, "f", "", want)
		}
		traced(t, w, events...)
		closes(t, w, "f", 0)
		for _, other := range kinds() {
			writes(t, w, other, "f", "x", api.ErrStream)
			writes(t, w, other, "f", "", api.ErrStream)
		}
	}
}

// P7.3: writes of no bytes leave no event; they fail like others.
func TestWriteOfNothing(t *testing.T) {
	w := made(t, api.Script{Files: []api.Content{{Name: "f", Data: "ab"}}, Fails: fails(3, "no"), Streams: 9})
	var events []api.Event
	for _, k := range kinds()[2:] {
		writes(t, w, k, "f", "", api.ErrStream)
		for _, name := range []string{"f", "no"} {
			opens(t, w, k, name, api.OK)
			events = append(events, opened(k, name))
		}
		for range 2 {
			writes(t, w, k, "f", "", api.OK)
			writes(t, w, k, "no", "", api.ErrWrite)
		}
	}
	writes(t, w, api.Stdout, "", "", api.OK)
	writes(t, w, api.Stdout, "no", "", api.OK)
	writes(t, w, api.InFile, "f", "", api.ErrStream)
	traced(t, w, events...)
	holds(t, w, "f", "")
	w = made(t, api.Script{Fails: fails(3, "")})
	writes(t, w, api.Stdout, "f", "", api.ErrWrite)
	traced(t, w)
}

// P7.3, R2: a write that fails writes nothing.
func TestWriteFails(t *testing.T) {
	w := made(t, api.Script{Files: []api.Content{{Name: "f", Data: "ab"}}, Fails: fails(3, "f"), Streams: 9})
	for range 2 {
		opens(t, w, api.OutAppend, "f", api.OK)
		writes(t, w, api.OutAppend, "f", "x", api.ErrWrite)
		writes(t, w, api.OutFile, "f", "x", api.ErrStream)
		holds(t, w, "f", "ab")
	}
	opens(t, w, api.OutFile, "f", api.OK)
	opens(t, w, api.OutPipe, "f", api.OK)
	writes(t, w, api.OutFile, "f", "x", api.ErrWrite)
	writes(t, w, api.OutPipe, "f", "x", api.ErrWrite)
	writes(t, w, api.Stdout, "f", "x", api.OK)
	holds(t, w, "f", "")
	traced(t, w, opened(api.OutAppend, "f"), opened(api.OutFile, "f"), opened(api.OutPipe, "f"), wrote(api.Stdout, "", "x"))
}

// P7.3: Stdout is one, whatever name it is told by.
func TestStdout(t *testing.T) {
	names := []string{"", "f", "-", "other", "\xff"}
	w := made(t, api.Script{Files: []api.Content{{Name: "f"}}, Fails: fails(3, "f", "-", "other"), Streams: 0})
	var events []api.Event
	for _, name := range names {
		isOpen(t, w, name)
		writes(t, w, api.Stdout, name, "to "+name, api.OK)
		events = append(events, wrote(api.Stdout, "", "to "+name))
		closesNot(t, w, name)
		w.CloseAll()
		isOpen(t, w, name)
		readsNot(t, w, api.Stdout, name, 1, api.ErrStream)
	}
	count(t, w, 0)
	holds(t, w, "f", "")
	holdsNot(t, w, "")
	traced(t, w, events...)
	// With the empty name all of it fails; so does a file of that name.
	w = made(t, api.Script{Files: []api.Content{{Name: ""}}, Fails: fails(3, ""), Streams: 2})
	for _, name := range names {
		writes(t, w, api.Stdout, name, "x", api.ErrWrite)
	}
	opens(t, w, api.OutFile, "", api.OK)
	opens(t, w, api.OutFile, "f", api.OK)
	writes(t, w, api.OutFile, "", "x", api.ErrWrite)
	writes(t, w, api.OutFile, "f", "x", api.OK)
	traced(t, w, opened(api.OutFile, ""), opened(api.OutFile, "f"), wrote(api.OutFile, "f", "x"))
	w = made(t, api.Script{Fails: append(fails(1, ""), append(fails(2, ""), fails(4, "")...)...)})
	writes(t, w, api.Stdout, "", "x", api.OK)
}

// P7.6: what was written stands there, piece behind piece, and a stream gives
// it again, however it is cut.
func TestLongFile(t *testing.T) {
	w := made(t, api.Script{Streams: 3})
	opens(t, w, api.OutFile, "f", api.OK)
	var all strings.Builder
	for i := range 30000 {
		piece := strings.Repeat(strconv.Itoa(i), i%13)
		writes(t, w, api.OutFile, "f", piece, api.OK)
		all.WriteString(piece)
		if i%1000 == 999 {
			holds(t, w, "f", all.String())
		}
	}
	for _, n := range []int{1, 2, 7, 512, 4096, all.Len() - 1, all.Len(), all.Len() + 1} {
		opens(t, w, api.InFile, "f", api.OK)
		var back strings.Builder
		for {
			piece, err := w.Read(api.InFile, "f", n)
			if err != api.OK || len(piece) > n || len(piece) < n && back.Len()+len(piece) != all.Len() {
				t.Fatalf("a piece of %d bytes for %d, %d", len(piece), n, err)
			}
			if piece == "" {
				break
			}
			back.WriteString(piece)
		}
		if back.String() != all.String() {
			t.Errorf("by %d bytes the file is another one", n)
		}
		closes(t, w, "f", 0)
	}
	if len(w.Trace()) != 30000-30000/13-1+1+8*2+1 {
		t.Error("events:", len(w.Trace()))
	}
}
