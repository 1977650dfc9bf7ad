package world

import (
	"slices"

	"winnower/api"
)

// stream is one that is open.
type stream struct {
	kind api.StreamKind
	name string
	left *string // what it has still to give; none of what is written to
}

// Open opens a stream, unless it is open.
func (w *World) Open(k api.StreamKind, name string) api.Errno {
	switch {
	case !w.made():
		return api.ErrNil
	case k < api.InFile || k > api.OutPipe:
		return api.ErrArg
	case w.place(k, name) >= 0:
		return api.OK
	case len(w.streams) >= w.most:
		return api.ErrStreams
	case w.failing(opening, name) || k == api.InFile && name != handedIn && w.files[name] == nil:
		return api.ErrOpen
	}
	w.streams = append(w.streams, stream{k, name, w.begin(k, name)})
	w.note(api.Event{Kind: api.EvOpen, Stream: k, Name: name})
	return api.OK
}

// IsOpen says whether a stream is open.
func (w *World) IsOpen(k api.StreamKind, name string) bool {
	return w.made() && (k == api.Stdout || w.place(k, name) >= 0)
}

// Read tells the next n bytes that a stream gives, or as many as are left.
func (w *World) Read(k api.StreamKind, name string, n int) (string, api.Errno) {
	if !w.made() {
		return "", api.ErrNil
	}
	at := w.place(k, name)
	switch {
	case at < 0 || w.streams[at].left == nil:
		return "", api.ErrStream
	case n < 1:
		return "", api.ErrArg
	case w.failing(reading, name):
		return "", api.ErrRead
	}
	left := w.streams[at].left
	n = min(n, len(*left))
	piece := (*left)[:n]
	*left = (*left)[n:]
	return piece, api.OK
}

// Write writes to a stream.
func (w *World) Write(k api.StreamKind, name, data string) api.Errno {
	if k == api.Stdout {
		name = ""
	}
	switch {
	case !w.made():
		return api.ErrNil
	case k < api.OutFile || !w.IsOpen(k, name):
		return api.ErrStream
	case w.failing(writing, name):
		return api.ErrWrite
	case data == "":
		return api.OK
	}
	if k == api.OutFile || k == api.OutAppend {
		w.file(name).WriteString(data)
	}
	w.note(api.Event{Kind: api.EvWrite, Stream: k, Name: name, Data: data})
	return api.OK
}

// Close closes all streams of a name, and tells the status of the last one, and
// whether there was one.
func (w *World) Close(name string) (int, bool) {
	if !w.made() {
		return 0, false
	}
	status, closed := 0, false
	for k := api.InFile; k <= api.OutPipe; k++ {
		at := w.place(k, name)
		if at < 0 {
			continue
		}
		w.streams = slices.Delete(w.streams, at, at+1)
		status, closed = w.status(k, name), true
		w.note(api.Event{Kind: api.EvClose, Stream: k, Name: name, Status: status})
	}
	return status, closed
}

// CloseAll closes all that is open.
func (w *World) CloseAll() {
	// What was opened first is the oldest of its name.
	for w.Streams() > 0 {
		w.Close(w.streams[0].name)
	}
}

// Streams tells how many streams are open.
func (w *World) Streams() int {
	if !w.made() {
		return 0
	}
	return len(w.streams)
}

// place tells where a stream stands among those that are open, or a number
// below 0.
func (w *World) place(k api.StreamKind, name string) int {
	return slices.IndexFunc(w.streams, func(s stream) bool { return s.kind == k && s.name == name })
}

// begin makes a stream's file ready, and tells what the stream has to give.
func (w *World) begin(k api.StreamKind, name string) *string {
	switch k {
	case api.InFile:
		// What one stream has read of it no later one gives again.
		if name == handedIn {
			return &w.stdin
		}
		left := w.files[name].String()
		return &left
	case api.InPipe:
		left := w.replies[name].Output
		return &left
	case api.OutFile:
		w.file(name).Reset()
	case api.OutAppend:
		w.file(name)
	}
	return nil
}

// status tells with which status a stream is closed.
func (w *World) status(k api.StreamKind, name string) int {
	if k == api.InPipe || k == api.OutPipe {
		return w.replies[name].Status
	}
	return 0
}
