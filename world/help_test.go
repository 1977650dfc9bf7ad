package world

import (
	"slices"
	"testing"

	"winnower/api"
)

// made tells a world of a script that may be.
func made(t *testing.T, s api.Script) *World {
	t.Helper()
	w, err := New(s)
	if err != api.OK || w == nil {
		t.Fatalf("New(%+v) = %v, %d", s, w, err)
	}
	return w
}

func opens(t *testing.T, w *World, k api.StreamKind, name string, want api.Errno) {
	t.Helper()
	if err := w.Open(k, name); err != want {
		t.Errorf("Open(%d, %q) = %d; want %d", k, name, err, want)
	}
}

// isOpen says of each of some kinds that a stream of a name is open, and of all
// others that none is.
func isOpen(t *testing.T, w *World, name string, open ...api.StreamKind) {
	t.Helper()
	for k := range api.StreamKind(255) {
		want := slices.Contains(open, k) || k == api.Stdout
		if w.IsOpen(k, name) != want {
			t.Errorf("IsOpen(%d, %q) = %v", k, name, !want)
		}
	}
}

func reads(t *testing.T, w *World, k api.StreamKind, name string, n int, want string) {
	t.Helper()
	if s, err := w.Read(k, name, n); s != want || err != api.OK {
		t.Errorf("Read(%d, %q, %d) = %q, %d; want %q", k, name, n, s, err, want)
	}
}

func readsNot(t *testing.T, w *World, k api.StreamKind, name string, n int, want api.Errno) {
	t.Helper()
	if s, err := w.Read(k, name, n); s != "" || err != want {
		t.Errorf("Read(%d, %q, %d) = %q, %d; want error %d", k, name, n, s, err, want)
	}
}

func writes(t *testing.T, w *World, k api.StreamKind, name, data string, want api.Errno) {
	t.Helper()
	if err := w.Write(k, name, data); err != want {
		t.Errorf("Write(%d, %q, %q) = %d; want %d", k, name, data, err, want)
	}
}

func closes(t *testing.T, w *World, name string, want int) {
	t.Helper()
	if status, ok := w.Close(name); status != want || !ok {
		t.Errorf("Close(%q) = %d, %v; want %d, true", name, status, ok, want)
	}
}

func closesNot(t *testing.T, w *World, name string) {
	t.Helper()
	if status, ok := w.Close(name); status != 0 || ok {
		t.Errorf("Close(%q) = %d, %v; want 0, false", name, status, ok)
	}
}

func system(t *testing.T, w *World, command string, want int, wantErr api.Errno) {
	t.Helper()
	if status, err := w.System(command); status != want || err != wantErr {
		t.Errorf("System(%q) = %d, %d; want %d, %d", command, status, err, want, wantErr)
	}
}

func holds(t *testing.T, w *World, name, want string) {
	t.Helper()
	if data, ok := w.File(name); data != want || !ok {
		t.Errorf("File(%q) = %q, %v; want %q, true", name, data, ok, want)
	}
}

func holdsNot(t *testing.T, w *World, name string) {
	t.Helper()
	if data, ok := w.File(name); data != "" || ok {
		t.Errorf("File(%q) = %q, %v; want none", name, data, ok)
	}
}

// count says how many streams are open.
func count(t *testing.T, w *World, want int) {
	t.Helper()
	if n := w.Streams(); n != want {
		t.Errorf("Streams() = %d; want %d", n, want)
	}
}

// traced says what all of the trace is.
func traced(t *testing.T, w *World, want ...api.Event) {
	t.Helper()
	if got := w.Trace(); !slices.Equal(got, want) {
		t.Errorf("Trace() = %+v; want %+v", got, want)
	}
}

func opened(k api.StreamKind, name string) api.Event {
	return api.Event{Kind: api.EvOpen, Stream: k, Name: name}
}

func wrote(k api.StreamKind, name, data string) api.Event {
	return api.Event{Kind: api.EvWrite, Stream: k, Name: name, Data: data}
}

func closed(k api.StreamKind, name string, status int) api.Event {
	return api.Event{Kind: api.EvClose, Stream: k, Name: name, Status: status}
}

func ran(command string, status int) api.Event {
	return api.Event{Kind: api.EvSystem, Name: command, Status: status}
}

// fails tells what fails: one Op of some names.
func fails(op uint8, names ...string) []api.Fail {
	var all []api.Fail
	for _, name := range names {
		all = append(all, api.Fail{Op: op, Name: name})
	}
	return all
}

// kinds are those of which a stream may be opened.
func kinds() []api.StreamKind {
	return []api.StreamKind{api.InFile, api.InPipe, api.OutFile, api.OutAppend, api.OutPipe}
}

// noKinds are those of which no stream may be opened.
func noKinds() []api.StreamKind {
	return []api.StreamKind{0, api.Stdout, api.Stdout + 1, 8, 64, 127, 128, 129, 254, 255}
}
