package world

import (
	"strconv"
	"testing"

	"winnower/api"
)

// P7.4: each kind alone, with a reply of that command and without.
func TestCloseOfKind(t *testing.T) {
	for _, k := range kinds() {
		w := made(t, api.Script{Files: []api.Content{{Name: "none"}, {Name: "c"}}, Replies: []api.Reply{{Command: "b", Status: 8}, {Command: "c", Status: 3}, {Command: "d", Status: 9}}, Streams: 2})
		closesNot(t, w, "c")
		opens(t, w, k, "c", api.OK)
		opens(t, w, k, "none", api.OK)
		want := 0
		if k == api.InPipe || k == api.OutPipe {
			want = 3
		}
		closes(t, w, "c", want)
		isOpen(t, w, "c")
		isOpen(t, w, "none", k)
		count(t, w, 1)
		closesNot(t, w, "c")
		closesNot(t, w, "b")
		closes(t, w, "none", 0)
		closesNot(t, w, "none")
		opens(t, w, k, "c", api.OK)
		closes(t, w, "c", want)
		traced(t, w, opened(k, "c"), opened(k, "none"), closed(k, "c", want), closed(k, "none", 0), opened(k, "c"), closed(k, "c", want))
	}
}

// P7.4: all of some kinds of one name at once, in whatever order they were
// opened.
func TestCloseOfManyKinds(t *testing.T) {
	for some := range 1 << len(kinds()) {
		for _, order := range [][]int{{0, 1, 2, 3, 4}, {4, 3, 2, 1, 0}, {2, 4, 0, 3, 1}} {
			w := made(t, api.Script{Files: []api.Content{{Name: "f"}, {Name: "g"}}, Replies: []api.Reply{{Command: "f", Status: 3}, {Command: "g", Status: 4}}, Streams: 16})
			var events, closings []api.Event
			for _, i := range order {
				for _, name := range []string{"f", "g"} {
					if some>>i&1 == 1 {
						opens(t, w, kinds()[i], name, api.OK)
						events = append(events, opened(kinds()[i], name))
					}
				}
			}
			status, open := 0, []api.StreamKind{}
			for i, k := range kinds() {
				if some>>i&1 == 1 {
					status = []int{0, 3, 0, 0, 3}[i]
					closings = append(closings, closed(k, "f", status))
					open = append(open, k)
				}
			}
			isOpen(t, w, "f", open...)
			if some == 0 {
				closesNot(t, w, "f")
			} else {
				closes(t, w, "f", status)
			}
			isOpen(t, w, "f")
			isOpen(t, w, "g", open...)
			count(t, w, len(open))
			closesNot(t, w, "f")
			traced(t, w, append(events, closings...)...)
		}
	}
}

// P7.4: what a closing leaves: files, what was written, and other streams.
func TestCloseLeaves(t *testing.T) {
	w := made(t, api.Script{Files: []api.Content{{Name: "f", Data: "abc"}, {Name: "g", Data: "xyz"}}, Streams: 4})
	for _, name := range []string{"f", "g"} {
		opens(t, w, api.InFile, name, api.OK)
		opens(t, w, api.OutAppend, name, api.OK)
		writes(t, w, api.OutAppend, name, "+", api.OK)
	}
	reads(t, w, api.InFile, "f", 1, "a")
	reads(t, w, api.InFile, "g", 1, "x")
	closes(t, w, "f", 0)
	holds(t, w, "f", "abc+")
	reads(t, w, api.InFile, "g", 9, "yz")
	writes(t, w, api.OutAppend, "g", "+", api.OK)
	holds(t, w, "g", "xyz++")
	writes(t, w, api.OutAppend, "f", "x", api.ErrStream)
	readsNot(t, w, api.InFile, "f", 1, api.ErrStream)
	// Opened again a stream begins anew.
	opens(t, w, api.InFile, "f", api.OK)
	reads(t, w, api.InFile, "f", 9, "abc+")
}

// P7.4: CloseAll of none, of one, and of as many as may be.
func TestCloseAll(t *testing.T) {
	w := made(t, api.Script{Replies: []api.Reply{{Command: "0", Status: 4}}, Streams: 16})
	w.CloseAll()
	traced(t, w)
	opens(t, w, api.OutPipe, "0", api.OK)
	w.CloseAll()
	w.CloseAll()
	count(t, w, 0)
	traced(t, w, opened(api.OutPipe, "0"), closed(api.OutPipe, "0", 4))
	w = made(t, api.Script{Streams: 16})
	var events, closings []api.Event
	for i := range 16 {
		k, name := kinds()[1+i*3%4], strconv.Itoa(15-i)
		opens(t, w, k, name, api.OK)
		events = append(events, opened(k, name))
		closings = append(closings, closed(k, name, 0))
	}
	w.CloseAll()
	count(t, w, 0)
	traced(t, w, append(events, closings...)...)
	for i := range 16 {
		isOpen(t, w, strconv.Itoa(i))
	}
	writes(t, w, api.Stdout, "", "x", api.OK)
}

// P7.4: names are closed in the order of the oldest stream that each has open.
func TestCloseAllOrder(t *testing.T) {
	w := made(t, api.Script{Files: []api.Content{{Name: "a"}, {Name: "b"}, {Name: "c"}}, Replies: []api.Reply{{Command: "b", Status: 3}}, Streams: 16})
	opens(t, w, api.OutFile, "a", api.OK)
	opens(t, w, api.OutPipe, "b", api.OK)
	opens(t, w, api.OutAppend, "a", api.OK)
	opens(t, w, api.InFile, "c", api.OK)
	opens(t, w, api.InFile, "b", api.OK)
	// The a that is open behind this is younger than b and c.
	closes(t, w, "a", 0)
	opens(t, w, api.InFile, "a", api.OK)
	opens(t, w, api.InPipe, "b", api.OK)
	opens(t, w, api.OutFile, "c", api.OK)
	opens(t, w, api.OutPipe, "b", api.OK)
	before := w.Trace()
	w.CloseAll()
	traced(t, w, append(before,
		closed(api.InFile, "b", 0), closed(api.InPipe, "b", 3), closed(api.OutPipe, "b", 3),
		closed(api.InFile, "c", 0), closed(api.OutFile, "c", 0),
		closed(api.InFile, "a", 0))...)
	count(t, w, 0)
	// What is opened behind it is closed by another one.
	opens(t, w, api.OutFile, "c", api.OK)
	opens(t, w, api.OutFile, "a", api.OK)
	opens(t, w, api.InFile, "c", api.OK)
	before = w.Trace()
	w.CloseAll()
	traced(t, w, append(before, closed(api.InFile, "c", 0), closed(api.OutFile, "c", 0), closed(api.OutFile, "a", 0))...)
}
