package reader

import (
	"math/rand"
	"slices"
	"strings"
	"testing"

	"winnower/api"
	"winnower/world"
)

// all is more than any source of these tests has.
const all = 1 << 24

func seeded() *rand.Rand {
	return rand.New(rand.NewSource(10))
}

func worldOf(t *testing.T, s api.Script) *world.World {
	t.Helper()
	w, err := world.New(s)
	if err != api.OK {
		t.Fatalf("world.New(%+v) = %d", s, err)
	}
	return w
}

func readerOf(t *testing.T, w *world.World, k api.StreamKind, name string) *Reader {
	t.Helper()
	r, err := New(w, k, name)
	if err != api.OK || r == nil {
		t.Fatalf("New(%d, %q) = %v, %d", k, name, r, err)
	}
	return r
}

// handed tells a world that is handed a source, and a reader of that.
func handed(t *testing.T, source string) (*world.World, *Reader) {
	t.Helper()
	w := worldOf(t, api.Script{Stdin: source, Streams: 1})
	return w, readerOf(t, w, api.InFile, "-")
}

// next is what Next and then Ended tell, as a model does.
type next interface {
	Next(rs string) (string, bool, api.Errno)
	Ended() bool
}

func tells(t *testing.T, r next, rs, want string) {
	t.Helper()
	if s, ok, err := r.Next(rs); s != want || !ok || err != api.OK {
		t.Errorf("Next(%q) = %q, %v, %d; want %q", rs, short(s), ok, err, short(want))
	}
	if r.Ended() {
		t.Errorf("ended, behind a record by %q", rs)
	}
}

// ends says that there is no record any more, however often one is asked for.
func ends(t *testing.T, r next, rs string) {
	t.Helper()
	for range 3 {
		if s, ok, err := r.Next(rs); s != "" || ok || err != api.OK {
			t.Errorf("Next(%q) = %q, %v, %d; want none", rs, short(s), ok, err)
		}
		if !r.Ended() {
			t.Errorf("not ended, behind no record by %q", rs)
		}
	}
}

// fails says that there is an error, however often a record is asked for.
func fails(t *testing.T, r next, rs string, want api.Errno) {
	t.Helper()
	for range 3 {
		if s, ok, err := r.Next(rs); s != "" || ok || err != want {
			t.Errorf("Next(%q) = %q, %v, %d; want error %d", rs, short(s), ok, err, want)
		}
		if !r.Ended() {
			t.Errorf("not ended, behind an error by %q", rs)
		}
	}
}

// rest says what a stream still gives: all that no reader has asked for.
func rest(t *testing.T, w *world.World, k api.StreamKind, name, want string) {
	t.Helper()
	if s, err := w.Read(k, name, all); s != want || err != api.OK {
		t.Errorf("the stream has still %q, %d; want %q", short(s), err, short(want))
	}
}

// records says which ones there are of a source by one RS, and no other ones.
func records(t *testing.T, source, rs string, want ...string) {
	t.Helper()
	_, r := handed(t, source)
	for _, one := range want {
		tells(t, r, rs, one)
	}
	ends(t, r, rs)
	if t.Failed() {
		t.Fatalf("of %q by %q", short(source), rs)
	}
}

// asked says how many bytes were asked for ahead of the first record of a source
// is told.
func asked(t *testing.T, source, rs string, want int) {
	t.Helper()
	w, r := handed(t, source)
	r.Next(rs)
	rest(t, w, api.InFile, "-", source[min(want, len(source)):])
	if t.Failed() {
		t.Fatalf("of %q by %q", short(source), rs)
	}
}

// short tells a text that can be read in a line.
func short(s string) string {
	if len(s) < 90 {
		return s
	}
	return s[:40] + ".." + s[len(s)-40:]
}

func bytesOf(n int) string {
	return strings.Repeat("x", n)
}

// texts tells all texts of some parts, up to so many of them.
func texts(parts []string, most int) []string {
	last := []string{""}
	every := slices.Clone(last)
	for range most {
		var longer []string
		for _, s := range last {
			for _, p := range parts {
				longer = append(longer, s+p)
			}
		}
		last = longer
		every = append(every, last...)
	}
	return every
}

// rows tells all rows of some elements, up to so many of them.
func rows(elements []string, most int) [][]string {
	last := [][]string{nil}
	every := slices.Clone(last)
	for range most {
		var longer [][]string
		for _, row := range last {
			for _, e := range elements {
				longer = append(longer, append(slices.Clone(row), e))
			}
		}
		last = longer
		every = append(every, last...)
	}
	return every
}
