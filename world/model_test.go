package world

import (
	"fmt"
	"math/rand"
	"slices"
	"testing"

	"winnower/api"
)

// model is a world, word by word as the chapter has it: all is looked for in
// lists, and nothing is shared.
type model struct {
	script  api.Script
	files   []api.Content
	handed  int // how many bytes of Stdin were read
	streams []modelStream
	trace   []api.Event
}

type modelStream struct {
	kind   api.StreamKind
	name   string
	source []byte
	at     int
}

// calls are what a world and a model may be asked for.
type calls interface {
	Open(k api.StreamKind, name string) api.Errno
	IsOpen(k api.StreamKind, name string) bool
	Read(k api.StreamKind, name string, n int) (string, api.Errno)
	Write(k api.StreamKind, name, data string) api.Errno
	Close(name string) (int, bool)
	CloseAll()
	System(command string) (int, api.Errno)
	File(name string) (string, bool)
	Streams() int
	Trace() []api.Event
}

func newModel(s api.Script) *model {
	return &model{script: s, files: slices.Clone(s.Files)}
}

func (m *model) fails(op uint8, name string) bool {
	return slices.Contains(m.script.Fails, api.Fail{Op: op, Name: name})
}

// reply tells the first reply of a command, and whether there is one.
func (m *model) reply(command string) (api.Reply, bool) {
	for _, r := range m.script.Replies {
		if r.Command == command {
			return r, true
		}
	}
	return api.Reply{}, false
}

// file tells where a file stands, or a number below 0.
func (m *model) file(name string) int {
	for i, f := range m.files {
		if f.Name == name {
			return i
		}
	}
	return -1
}

func (m *model) stream(k api.StreamKind, name string) *modelStream {
	for i := range m.streams {
		if m.streams[i].kind == k && m.streams[i].name == name {
			return &m.streams[i]
		}
	}
	return nil
}

func (m *model) Open(k api.StreamKind, name string) api.Errno {
	if k < 1 || k > 5 {
		return api.ErrArg
	}
	if m.stream(k, name) != nil {
		return api.OK
	}
	if len(m.streams) == m.script.Streams {
		return api.ErrStreams
	}
	if m.fails(1, name) || k == api.InFile && name != "-" && m.file(name) < 0 {
		return api.ErrOpen
	}
	s := modelStream{kind: k, name: name}
	if (k == api.OutFile || k == api.OutAppend) && m.file(name) < 0 {
		m.files = append(m.files, api.Content{Name: name})
	}
	if k == api.OutFile {
		m.files[m.file(name)].Data = ""
	}
	if k == api.InFile && name != "-" {
		s.source = []byte(m.files[m.file(name)].Data)
	}
	if k == api.InPipe {
		r, _ := m.reply(name)
		s.source = []byte(r.Output)
	}
	m.streams = append(m.streams, s)
	m.trace = append(m.trace, opened(k, name))
	return api.OK
}

func (m *model) IsOpen(k api.StreamKind, name string) bool {
	return k == api.Stdout || m.stream(k, name) != nil
}

func (m *model) Read(k api.StreamKind, name string, n int) (string, api.Errno) {
	s := m.stream(k, name)
	if s == nil || k != api.InFile && k != api.InPipe {
		return "", api.ErrStream
	}
	if n < 1 {
		return "", api.ErrArg
	}
	if m.fails(2, name) {
		return "", api.ErrRead
	}
	source, at := s.source, &s.at
	if k == api.InFile && name == "-" {
		source, at = []byte(m.script.Stdin), &m.handed
	}
	var piece []byte
	for len(piece) < n && *at < len(source) {
		piece = append(piece, source[*at])
		*at++
	}
	return string(piece), api.OK
}

func (m *model) Write(k api.StreamKind, name, data string) api.Errno {
	if k == api.Stdout {
		name = ""
	} else if k < api.OutFile || m.stream(k, name) == nil {
		return api.ErrStream
	}
	if m.fails(3, name) {
		return api.ErrWrite
	}
	if k == api.OutFile || k == api.OutAppend {
		m.files[m.file(name)].Data += data
	}
	if len(data) > 0 {
		m.trace = append(m.trace, wrote(k, name, data))
	}
	return api.OK
}

func (m *model) Close(name string) (int, bool) {
	status, any := 0, false
	for _, k := range kinds() {
		if m.stream(k, name) == nil {
			continue
		}
		status, any = 0, true
		if k == api.InPipe || k == api.OutPipe {
			r, _ := m.reply(name)
			status = r.Status
		}
		m.trace = append(m.trace, closed(k, name, status))
	}
	var others []modelStream
	for _, s := range m.streams {
		if s.name != name {
			others = append(others, s)
		}
	}
	m.streams = others
	return status, any
}

func (m *model) CloseAll() {
	for _, s := range slices.Clone(m.streams) {
		m.Close(s.name)
	}
}

func (m *model) System(command string) (int, api.Errno) {
	if m.fails(4, command) {
		return 0, api.ErrOpen
	}
	r, ok := m.reply(command)
	if !ok {
		r.Status = 127
	}
	m.trace = append(m.trace, ran(command, r.Status))
	return r.Status, api.OK
}

func (m *model) File(name string) (string, bool) {
	if i := m.file(name); i >= 0 {
		return m.files[i].Data, true
	}
	return "", false
}

func (m *model) Streams() int       { return len(m.streams) }
func (m *model) Trace() []api.Event { return m.trace }

// call is something that is asked, and how that is told; do tells the answer.
type call struct {
	told string
	do   func(c calls) string
}

func openCall(k api.StreamKind, name string) call {
	return call{fmt.Sprintf("Open(%d, %q)", k, name), func(c calls) string { return fmt.Sprint(c.Open(k, name)) }}
}

func readCall(k api.StreamKind, name string, n int) call {
	return call{fmt.Sprintf("Read(%d, %q, %d)", k, name, n), func(c calls) string {
		s, err := c.Read(k, name, n)
		return fmt.Sprintf("%q %d", s, err)
	}}
}

func writeCall(k api.StreamKind, name, data string) call {
	return call{fmt.Sprintf("Write(%d, %q, %q)", k, name, data), func(c calls) string { return fmt.Sprint(c.Write(k, name, data)) }}
}

func closeCall(name string) call {
	return call{fmt.Sprintf("Close(%q)", name), func(c calls) string { return fmt.Sprint(c.Close(name)) }}
}

func closeAllCall() call {
	return call{"CloseAll()", func(c calls) string { c.CloseAll(); return "" }}
}

func systemCall(command string) call {
	return call{fmt.Sprintf("System(%q)", command), func(c calls) string { return fmt.Sprint(c.System(command)) }}
}

// tell tells a script and some calls.
func (m *model) tell(past []call) string {
	told := fmt.Sprintf("%+v:", m.script)
	for _, c := range past {
		told += " " + c.told + ";"
	}
	return told
}

// alike says that after some calls, of which the last was answered by both, a
// world is what the model is.
func alike(t *testing.T, w *World, m *model, names []string, past []call) {
	t.Helper()
	for _, name := range names {
		for k := range api.Stdout + 2 {
			if got, want := w.IsOpen(k, name), m.IsOpen(k, name); got != want {
				t.Fatalf("%s IsOpen(%d, %q) = %v", m.tell(past), k, name, got)
			}
		}
		data, ok := w.File(name)
		if wantData, want := m.File(name); data != wantData || ok != want {
			t.Fatalf("%s File(%q) = %q, %v; want %q, %v", m.tell(past), name, data, ok, wantData, want)
		}
	}
	if w.Streams() != m.Streams() {
		t.Fatalf("%s Streams() = %d; want %d", m.tell(past), w.Streams(), m.Streams())
	}
	if got, want := w.Trace(), m.Trace(); !slices.Equal(got, want) {
		t.Fatalf("%s Trace() = %+v; want %+v", m.tell(past), got, want)
	}
}

// both hands one more call to a world and the model, and holds the answers
// against each other.
func both(t *testing.T, w *World, m *model, names []string, past []call) {
	t.Helper()
	last := past[len(past)-1]
	if got, want := last.do(w), last.do(m); got != want {
		t.Fatalf("%s %s; want %s", m.tell(past), got, want)
	}
	alike(t, w, m, names, past)
}

// P7.2 to P7.4, P7.6: all short rows of some calls on two files.
func TestShortRows(t *testing.T) {
	script := api.Script{Files: []api.Content{{Name: "a", Data: "xyz"}}, Replies: []api.Reply{{Command: "a", Output: "pq", Status: 3}}, Stdin: "in", Streams: 3}
	names := []string{"a", "b", "-"}
	all := []call{
		openCall(api.InFile, "a"), openCall(api.InPipe, "a"), openCall(api.OutFile, "a"), openCall(api.OutAppend, "a"), openCall(api.OutPipe, "a"), openCall(api.InFile, "-"), openCall(api.OutAppend, "b"), openCall(api.InFile, "b"),
		readCall(api.InFile, "a", 1), readCall(api.InFile, "a", 9), readCall(api.InPipe, "a", 1), readCall(api.InFile, "-", 1),
		writeCall(api.OutFile, "a", "1"), writeCall(api.OutAppend, "a", "22"), writeCall(api.OutAppend, "b", ""),
		closeCall("a"), closeCall("b"), closeAllCall(),
	}
	rows := 0
	var longer func(past []call)
	longer = func(past []call) {
		if len(past) == 4 {
			w, m := made(t, script), newModel(script)
			for i := range past {
				if i < len(past)-1 {
					past[i].do(w)
					past[i].do(m)
				}
			}
			both(t, w, m, names, past)
			rows++
			return
		}
		for _, c := range all {
			longer(append(past, c))
		}
	}
	longer(make([]call, 0, 4))
	if rows != 18*18*18*18 {
		t.Error("rows:", rows)
	}
}

// randomScript tells a world with some of the names as files, replies, and
// what fails.
func randomScript(random *rand.Rand, names []string) api.Script {
	s := api.Script{Stdin: randomText(random, 20), Streams: random.Intn(api.MaxStreams + 1)}
	if random.Intn(2) == 0 {
		s.Streams = 2 + random.Intn(5)
	}
	for _, i := range random.Perm(len(names)) {
		if random.Intn(2) == 0 {
			s.Files = append(s.Files, api.Content{Name: names[i], Data: randomText(random, 12)})
		}
		if random.Intn(2) == 0 {
			s.Replies = append(s.Replies, api.Reply{Command: names[i], Output: randomText(random, 12), Status: random.Intn(5) - 1})
		}
		if random.Intn(4) == 0 {
			s.Fails = append(s.Fails, api.Fail{Op: uint8(random.Intn(6)), Name: names[random.Intn(len(names))]})
		}
	}
	return s
}

func randomText(random *rand.Rand, most int) string {
	s := make([]byte, random.Intn(most+1))
	for i := range s {
		s[i] = "ab\n\x00\xff"[random.Intn(5)]
	}
	return string(s)
}

// randomCall tells something that may be asked, of all kinds, more often of
// those that there are.
func randomCall(random *rand.Rand, names []string) call {
	name := names[random.Intn(len(names))]
	in := []api.StreamKind{api.InFile, api.InPipe, api.InFile, api.StreamKind(random.Intn(9))}[random.Intn(4)]
	out := []api.StreamKind{api.OutFile, api.OutAppend, api.OutPipe, api.Stdout, api.StreamKind(random.Intn(9))}[random.Intn(5)]
	switch random.Intn(12) {
	case 0, 1, 2:
		return openCall(in, name)
	case 3, 4:
		return openCall(out, name)
	case 5, 6, 7:
		return readCall(in, name, random.Intn(7)-1)
	case 8, 9:
		return writeCall(out, name, randomText(random, 3))
	case 10:
		return systemCall(name)
	}
	if random.Intn(4) == 0 {
		return closeAllCall()
	}
	return closeCall(name)
}

// P7.2 to P7.6: long rows of calls, by a fixed seed.
func TestRandomRows(t *testing.T) {
	random := rand.New(rand.NewSource(7))
	names := []string{"", "-", "a", "b", "a b", "\x00"}
	events, kept := 0, 0
	for range 1500 {
		some := names[:2+random.Intn(len(names)-1)]
		s := randomScript(random, some)
		w, m := made(t, s), newModel(s)
		var past []call
		for range 60 {
			past = append(past, randomCall(random, some))
			both(t, w, m, some, past)
		}
		events += len(m.trace)
		kept += len(m.streams)
		// R4, P7.6: the same calls on the same script tell the same.
		again := made(t, s)
		for _, c := range past {
			c.do(again)
		}
		alike(t, again, m, some, past)
	}
	if events < 20000 || kept < 2000 {
		t.Error("little happens:", events, kept)
	}
}
