package world

import (
	"math"
	"math/big"
	"slices"
	"strconv"
	"testing"

	"winnower/api"
)

// The chapter's examples.
func TestExamples(t *testing.T) {
	w := made(t, api.Script{Files: []api.Content{{Name: "f", Data: "ab"}}, Streams: 2})
	opens(t, w, api.InFile, "f", api.OK)
	reads(t, w, api.InFile, "f", 1, "a")
	reads(t, w, api.InFile, "f", 9, "b")
	reads(t, w, api.InFile, "f", 9, "")
	opens(t, w, api.OutAppend, "f", api.OK)
	writes(t, w, api.OutAppend, "f", "c", api.OK)
	holds(t, w, "f", "abc")
	reads(t, w, api.InFile, "f", 9, "")
	opens(t, w, api.OutPipe, "sort", api.ErrStreams)
	closes(t, w, "f", 0)
	opens(t, w, api.InFile, "g", api.ErrOpen)
	system(t, w, "x", 127, api.OK)
	traced(t, w, opened(api.InFile, "f"), opened(api.OutAppend, "f"), wrote(api.OutAppend, "f", "c"), closed(api.InFile, "f", 0), closed(api.OutAppend, "f", 0), ran("x", 127))
}

// P7.1: how many streams there may be.
func TestStreamsOfScript(t *testing.T) {
	for n, want := range map[int]api.Errno{
		math.MinInt: api.ErrArg, -1 << 32: api.ErrArg, -16: api.ErrArg, -1: api.ErrArg, 0: api.OK, 1: api.OK, 8: api.OK, 15: api.OK, 16: api.OK,
		17: api.ErrArg, 32: api.ErrArg, 1 << 32: api.ErrArg, 1<<32 + 3: api.ErrArg, math.MaxInt: api.ErrArg,
	} {
		w, err := New(api.Script{Streams: n})
		if err != want || (w == nil) != (want != api.OK) {
			t.Errorf("New of %d streams = %v, %d; want %d", n, w != nil, err, want)
		}
	}
}

// P7.1: names of files and commands of replies stand once.
func TestNamesOfScript(t *testing.T) {
	for _, x := range []struct {
		names []string
		want  api.Errno
	}{
		{nil, api.OK}, {[]string{""}, api.OK}, {[]string{"a"}, api.OK}, {[]string{"a", "b", "", "-", "A", "a ", "aa", "\x00", "\x00\x00", "\xff"}, api.OK},
		{[]string{"a", "a"}, api.ErrArg}, {[]string{"", ""}, api.ErrArg}, {[]string{"-", "b", "-"}, api.ErrArg}, {[]string{"", "a", "b", ""}, api.ErrArg},
		{[]string{"a", "b", "c", "b"}, api.ErrArg}, {[]string{"b", "a", "c", "c", "d"}, api.ErrArg}, {[]string{"a\x00", "a", "a\x00"}, api.ErrArg},
	} {
		var files []api.Content
		var replies []api.Reply
		for i, name := range x.names {
			// Names count, not what else there is.
			files = append(files, api.Content{Name: name, Data: strconv.Itoa(i)})
			replies = append(replies, api.Reply{Command: name, Output: strconv.Itoa(i), Status: i})
		}
		for what, s := range map[string]api.Script{"files": {Files: files}, "replies": {Replies: replies}, "both": {Files: files, Replies: replies}} {
			if w, err := New(s); err != x.want || (w == nil) != (x.want != api.OK) {
				t.Errorf("New of %s %q = %v, %d; want %d", what, x.names, w != nil, err, x.want)
			}
		}
	}
	// A file and a reply may have one name; so may files that have the same
	// bytes, and what fails may fail twice, or be nothing that there is.
	made(t, api.Script{
		Files:   []api.Content{{Name: "a", Data: "x"}, {Name: "b", Data: "x"}},
		Replies: []api.Reply{{Command: "a", Output: "x", Status: 1}, {Command: "b", Output: "x", Status: 1}},
		Fails:   []api.Fail{{Op: 1, Name: "a"}, {Op: 1, Name: "a"}, {Op: 0, Name: "z"}, {Op: 5, Name: "b"}, {Op: 255}},
	})
}

// P7.1, R2: a world, or an error.
func TestNewAtOnce(t *testing.T) {
	a := made(t, api.Script{Streams: 1, Stdin: "xy"})
	b := made(t, api.Script{Streams: 1, Stdin: "xy"})
	opens(t, a, api.OutFile, "f", api.OK)
	writes(t, a, api.OutFile, "f", "1", api.OK)
	a.Chance()
	count(t, b, 0)
	holdsNot(t, b, "f")
	traced(t, b)
	if b.Chance() != 0 || b.IsOpen(api.OutFile, "f") {
		t.Error("one world is told by another one's calls")
	}
	opens(t, b, api.InFile, "-", api.OK)
	reads(t, b, api.InFile, "-", 9, "xy")
	closes(t, a, "f", 0)
	opens(t, a, api.InFile, "-", api.OK)
	reads(t, a, api.InFile, "-", 9, "xy")
}

// P7.1, R3: what is handed in stays, and a world doesn't hang on it.
func TestScriptIsNotKept(t *testing.T) {
	files := []api.Content{{Name: "f", Data: "ab"}, {Name: "g", Data: "cd"}, {Name: "spare", Data: "room"}}
	replies := []api.Reply{{Command: "c", Output: "out", Status: 3}, {Command: "d", Output: "put", Status: 4}, {Command: "spare"}}
	failing := []api.Fail{{Op: 1, Name: "no"}, {Op: 2, Name: "g"}, {Op: 3, Name: "spare"}}
	s := api.Script{Files: files[:2:3], Stdin: "in", Replies: replies[:2:3], Fails: failing[:2:3], Streams: 9, Clock: 5, Chance: 6}
	oldFiles, oldReplies, oldFails := slices.Clone(files), slices.Clone(replies), slices.Clone(failing)
	use := func(w *World) {
		opens(t, w, api.InFile, "f", api.OK)
		opens(t, w, api.InFile, "g", api.OK)
		opens(t, w, api.InPipe, "c", api.OK)
		opens(t, w, api.InFile, "-", api.OK)
		opens(t, w, api.OutFile, "no", api.ErrOpen)
		opens(t, w, api.InFile, "spare", api.ErrOpen)
		opens(t, w, api.OutFile, "spare", api.OK)
		reads(t, w, api.InFile, "f", 9, "ab")
		readsNot(t, w, api.InFile, "g", 9, api.ErrRead)
		reads(t, w, api.InPipe, "c", 9, "out")
		reads(t, w, api.InFile, "-", 1, "i")
		writes(t, w, api.OutFile, "spare", "x", api.OK)
		opens(t, w, api.OutFile, "f", api.OK)
		writes(t, w, api.OutFile, "f", "new", api.OK)
		system(t, w, "d", 4, api.OK)
		system(t, w, "spare", 127, api.OK)
		closes(t, w, "c", 3)
		holds(t, w, "g", "cd")
		if w.Clock() != 5 || w.Chance() != 6 {
			t.Error("clock or chance")
		}
		w.CloseAll()
	}
	w := made(t, s)
	use(w)
	if !slices.Equal(files, oldFiles) || !slices.Equal(replies, oldReplies) || !slices.Equal(failing, oldFails) || s.Stdin != "in" || s.Streams != 9 || s.Clock != 5 || s.Chance != 6 || len(s.Files) != 2 || len(s.Replies) != 2 || len(s.Fails) != 2 {
		t.Error("a script was changed:", s)
	}
	w = made(t, s)
	slices.Reverse(files)
	slices.Reverse(replies)
	slices.Reverse(failing)
	files[1], replies[1], failing[1] = api.Content{Name: "no"}, api.Reply{Command: "no"}, api.Fail{Op: 1, Name: "f"}
	clear(s.Files)
	clear(s.Replies)
	clear(s.Fails)
	use(w)
}

// R5: no world, and worlds that New did not make.
func TestNoWorld(t *testing.T) {
	right := made(t, api.Script{Files: []api.Content{{Name: "f", Data: "ab"}}, Replies: []api.Reply{{Command: "f", Status: 3}}, Stdin: "in", Streams: 9, Clock: 5, Chance: 6})
	for _, k := range kinds() {
		opens(t, right, k, "-", api.OK)
	}
	copied := *right
	none, _ := New(api.Script{Streams: -1})
	for what, w := range map[string]*World{
		"nil": nil, "beside an error": none, "empty": {}, "new": new(World), "a copy": &copied, "filled": {most: 9, clock: 5, chance: 6, stdin: "in", streams: copied.streams, trace: copied.trace, files: copied.files},
	} {
		for _, name := range []string{"", "-", "f", "x"} {
			for _, k := range append(kinds(), noKinds()...) {
				opens(t, w, k, name, api.ErrNil)
				readsNot(t, w, k, name, 1, api.ErrNil)
				readsNot(t, w, k, name, -1, api.ErrNil)
				writes(t, w, k, name, "x", api.ErrNil)
				writes(t, w, k, name, "", api.ErrNil)
				if w.IsOpen(k, name) {
					t.Errorf("%s: %d %q is open", what, k, name)
				}
			}
			closesNot(t, w, name)
			system(t, w, name, 0, api.ErrNil)
			holdsNot(t, w, name)
		}
		w.CloseAll()
		count(t, w, 0)
		traced(t, w)
		if w.Clock() != 0 || w.Chance() != 0 || w.Chance() != 0 {
			t.Errorf("%s: a clock or chance", what)
		}
	}
	count(t, right, 5)
	holds(t, right, "f", "ab")
	reads(t, right, api.InFile, "-", 9, "in")
	if right.Clock() != 5 || right.Chance() != 6 {
		t.Error("a world that was copied is none")
	}
	w, err := New(api.Script{Streams: 17})
	if w.Open(api.InFile, "-") != api.ErrNil || err != api.ErrArg {
		t.Error("a world beside an error")
	}
}

// P7.4: statuses of commands that are run.
func TestSystem(t *testing.T) {
	w := made(t, api.Script{
		Replies: []api.Reply{{Command: "a", Status: 3, Output: "x"}, {Command: "", Status: -1}, {Command: "b"}, {Command: "great", Status: math.MaxInt}, {Command: "small", Status: math.MinInt}, {Command: "no", Status: 9}, {Command: "-", Status: 4}},
		Fails:   append(append(append(fails(4, "no", "nor"), fails(1, "a")...), fails(2, "a", "b")...), fails(3, "a", "b", "")...),
	})
	system(t, w, "a", 3, api.OK)
	system(t, w, "a", 3, api.OK)
	system(t, w, "", -1, api.OK)
	system(t, w, "no", 0, api.ErrOpen)
	system(t, w, "b", 0, api.OK)
	system(t, w, "nor", 0, api.ErrOpen)
	system(t, w, "great", math.MaxInt, api.OK)
	system(t, w, "small", math.MinInt, api.OK)
	system(t, w, "A", 127, api.OK)
	system(t, w, "a ", 127, api.OK)
	system(t, w, "-", 4, api.OK)
	traced(t, w, ran("a", 3), ran("a", 3), ran("", -1), ran("b", 0), ran("great", math.MaxInt), ran("small", math.MinInt), ran("A", 127), ran("a ", 127), ran("-", 4))
	// It opens nothing, and closes nothing.
	count(t, w, 0)
	isOpen(t, w, "a")
	w = made(t, api.Script{Replies: []api.Reply{{Command: "a", Output: "xy", Status: 3}}, Streams: 1})
	opens(t, w, api.InPipe, "a", api.OK)
	reads(t, w, api.InPipe, "a", 1, "x")
	system(t, w, "a", 3, api.OK)
	reads(t, w, api.InPipe, "a", 9, "y")
	isOpen(t, w, "a", api.InPipe)
	// Without a reply a command has the status 127, a pipe the status 0.
	w = made(t, api.Script{Streams: 1})
	opens(t, w, api.OutPipe, "a", api.OK)
	system(t, w, "a", 127, api.OK)
	closes(t, w, "a", 0)
	traced(t, w, opened(api.OutPipe, "a"), ran("a", 127), closed(api.OutPipe, "a", 0))
}

// P7.5: the clock stays.
func TestClock(t *testing.T) {
	for _, clock := range []int{0, 1, -1, 1 << 40, math.MinInt, math.MaxInt} {
		w := made(t, api.Script{Clock: clock, Streams: 1})
		for range 3 {
			if w.Clock() != clock {
				t.Errorf("Clock() = %d; want %d", w.Clock(), clock)
			}
			opens(t, w, api.OutFile, "f", api.OK)
			w.Chance()
		}
	}
}

// P7.5: numbers of chance, held against numbers that have no end.
func TestChance(t *testing.T) {
	times, more := big.NewInt(6364136223846793005), big.NewInt(1442695040888963407)
	end := new(big.Int).Lsh(big.NewInt(1), 64)
	for _, seed := range []uint64{0, 1, 2, 1 << 32, 1<<63 - 1, 1 << 63, math.MaxUint64 - 1, math.MaxUint64, 0x123456789abcdef0} {
		w, want := made(t, api.Script{Chance: seed, Clock: 7}), new(big.Int).SetUint64(seed)
		for i := range 200 {
			if got := w.Chance(); got != want.Uint64() {
				t.Fatalf("number %d from %d on: %d; want %d", i, seed, got, want)
			}
			want.Mul(want, times).Add(want, more).Mod(want, end)
			// Nothing else goes on to the next one.
			w.Clock()
			w.System("x")
			w.Open(api.InFile, "-")
			w.CloseAll()
		}
	}
	w := made(t, api.Script{})
	for _, want := range []uint64{0, 1442695040888963407, 1876011003808476466, 11166244414315200793} {
		if got := w.Chance(); got != want {
			t.Errorf("Chance() = %d; want %d", got, want)
		}
	}
	traced(t, w)
}

// P7.5: files that there are, and that there are not.
func TestFile(t *testing.T) {
	w := made(t, api.Script{Files: []api.Content{{Name: "f", Data: "ab"}, {Name: "empty"}, {Name: "", Data: "nameless"}, {Name: "-", Data: "a file"}, {Name: "\x00", Data: "\x00\xff\n"}}, Stdin: "in", Replies: []api.Reply{{Command: "c", Output: "x"}}, Streams: 3})
	for range 2 {
		holds(t, w, "f", "ab")
		holds(t, w, "empty", "")
		holds(t, w, "", "nameless")
		holds(t, w, "-", "a file")
		holds(t, w, "\x00", "\x00\xff\n")
		for _, name := range []string{"F", "f ", "c", "ff", "\x00\x00"} {
			holdsNot(t, w, name)
		}
	}
	// What fails to open makes no file, and leaves one as it is.
	w = made(t, api.Script{Files: []api.Content{{Name: "f", Data: "ab"}}, Fails: fails(1, "f", "g"), Streams: 1})
	for _, k := range kinds() {
		opens(t, w, k, "f", api.ErrOpen)
		opens(t, w, k, "g", api.ErrOpen)
	}
	holds(t, w, "f", "ab")
	holdsNot(t, w, "g")
	opens(t, w, api.OutPipe, "h", api.OK)
	for _, k := range kinds() {
		opens(t, w, k, "f", api.ErrStreams)
		opens(t, w, k, "i", api.ErrStreams)
	}
	holds(t, w, "f", "ab")
	holdsNot(t, w, "i")
	holdsNot(t, w, "h")
	traced(t, w, opened(api.OutPipe, "h"))
}

// P7.5, R3: a trace that was told stays what it was, and is nobody else's.
func TestTraceIsNew(t *testing.T) {
	w := made(t, api.Script{Streams: 2})
	traced(t, w)
	opens(t, w, api.OutFile, "f", api.OK)
	first := w.Trace()
	writes(t, w, api.OutFile, "f", "x", api.OK)
	second, third := w.Trace(), w.Trace()
	system(t, w, "c", 127, api.OK)
	slices.Reverse(second)
	second[0] = ran("turned", 1)
	_ = append(second, ran("behind", 2))
	_ = append(first, ran("behind", 3))
	all := []api.Event{opened(api.OutFile, "f"), wrote(api.OutFile, "f", "x"), ran("c", 127)}
	traced(t, w, all...)
	if !slices.Equal(first, all[:1]) || !slices.Equal(third, all[:2]) {
		t.Error("traces that were told:", first, third)
	}
	closes(t, w, "f", 0)
	traced(t, w, append(all, closed(api.OutFile, "f", 0))...)
}
