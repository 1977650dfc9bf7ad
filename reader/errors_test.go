package reader

import (
	"testing"

	"winnower/api"
	"winnower/world"
)

// P10.2: an error at the first piece.
func TestReadFails(t *testing.T) {
	w := worldOf(t, api.Script{
		Stdin:   "a\n",
		Files:   []api.Content{{Name: "f", Data: "b\n"}},
		Replies: []api.Reply{{Command: "f", Output: "c\n"}},
		Fails:   []api.Fail{{Op: 2, Name: "f"}, {Op: 2, Name: "-"}},
		Streams: 3,
	})
	for _, k := range []api.StreamKind{api.InFile, api.InPipe} {
		for _, name := range []string{"f", "-"} {
			if k == api.InPipe && name == "-" {
				continue
			}
			r := readerOf(t, w, k, name)
			for _, rs := range []string{"\n", "", "ab"} {
				fails(t, r, rs, api.ErrRead)
			}
		}
	}
	w.Close("f")
	r := readerOf(t, w, api.InFile, "f")
	w.Close("f")
	fails(t, r, "", api.ErrStream)
	w.Open(api.InFile, "f")
	fails(t, r, "", api.ErrRead)
}

// P10.2: a stream that is closed between two records: what was read stays, and
// is told as far as a record's end stands in it.
func TestClosedBetween(t *testing.T) {
	w, r := handed(t, "\n\na\nb\n\nc:d")
	tells(t, r, "\n", "")
	w.Close("-")
	fails(t, r, "x", api.ErrStream)
	tells(t, r, "\n", "")
	tells(t, r, "", "a\nb")
	fails(t, r, "", api.ErrStream)
	fails(t, r, "\n", api.ErrStream)
	tells(t, r, ":", "c")
	fails(t, r, ":", api.ErrStream)
	w.Open(api.InFile, "-")
	tells(t, r, ":", "d")
	ends(t, r, ":")
}

// R2: behind an error bytes 10 that are to be let go are there still.
func TestErrorLetsNothingGo(t *testing.T) {
	w, r := handed(t, "a:\n\n\n")
	tells(t, r, ":", "a")
	w.Close("-")
	fails(t, r, "", api.ErrStream)
	tells(t, r, "\n", "")
	fails(t, r, "", api.ErrStream)
	tells(t, r, "\n", "")
	tells(t, r, "\n", "")
	fails(t, r, "\n", api.ErrStream)
	w.Open(api.InFile, "-")
	ends(t, r, "\n")

	w, r = handed(t, "a:b\n\n")
	tells(t, r, ":", "a")
	w.Close("-")
	fails(t, r, "", api.ErrStream)
	tells(t, r, "\n", "b")
	tells(t, r, "\n", "")
	fails(t, r, "", api.ErrStream)
}

// A stream that is opened anew goes on, for the reader, behind what was read.
func TestOpenedAnew(t *testing.T) {
	w := worldOf(t, api.Script{Files: []api.Content{{Name: "f", Data: "a:b"}}, Streams: 1})
	r := readerOf(t, w, api.InFile, "f")
	tells(t, r, ":", "a")
	w.Close("f")
	fails(t, r, ":", api.ErrStream)
	w.Open(api.InFile, "f")
	tells(t, r, ":", "ba")
	tells(t, r, ":", "b")
	ends(t, r, ":")
}

// An error at a later piece: the first one stays.
func TestErrorAtLaterPiece(t *testing.T) {
	source := "a:" + bytesOf(1200) + ":c"
	w, r := handed(t, source)
	tells(t, r, ":", "a")
	w.Close("-")
	fails(t, r, ":", api.ErrStream)
	fails(t, r, "", api.ErrStream)
	tells(t, r, "x", "")
	w.Open(api.InFile, "-")
	tells(t, r, ":", bytesOf(1199))
	tells(t, r, ":", "c")
	ends(t, r, "")
}

// The world itself is no more.
func TestWorldGone(t *testing.T) {
	w, r := handed(t, "a:b:c")
	tells(t, r, ":", "a")
	*w = world.World{}
	tells(t, r, ":", "b")
	fails(t, r, ":", api.ErrNil)
	fails(t, r, "", api.ErrNil)
}

// P10.2, Ended: whether Next told false, or an error, last.
func TestEnded(t *testing.T) {
	w, r := handed(t, "a:b\nc")
	if r.Ended() {
		t.Error("ended, ahead of any Next")
	}
	tells(t, r, ":", "a")
	w.Close("-")
	fails(t, r, ":", api.ErrStream)
	tells(t, r, "\n", "b")
	fails(t, r, "\n", api.ErrStream)
	w.Open(api.InFile, "-")
	tells(t, r, "\n", "c")
	ends(t, r, "\n")
	if s, ok := r.Ended(), r.Ended(); !s || !ok {
		t.Error("not ended, asked again")
	}
	_, none := handed(t, "")
	if none.Ended() {
		t.Error("ended, ahead of any Next, of no bytes")
	}
	ends(t, none, "")
}
