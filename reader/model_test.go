package reader

import (
	"bytes"
	"fmt"
	"math/rand"
	"regexp"
	"testing"

	"winnower/api"
	"winnower/world"
)

// model is a reader, word by word as the chapter has it: all that is left is
// looked through anew for each piece.
type model struct {
	w           *world.World
	kind        api.StreamKind
	name        string
	left        []byte
	over, ended bool
}

// twoBetween: two bytes 10, one behind the other, behind a byte that is none,
// and behind them a byte that is none.
var twoBetween = regexp.MustCompile(`(?s)[^\n].*\n\n.*[^\n]`)

func (m *model) hasEnd(rs string) bool {
	if rs == "" {
		return twoBetween.Match(m.left)
	}
	return bytes.IndexByte(m.left, rs[0]) >= 0
}

func (m *model) Next(rs string) (string, bool, api.Errno) {
	m.ended = true
	for !m.over && !m.hasEnd(rs) {
		piece, err := m.w.Read(m.kind, m.name, 512)
		if err != api.OK {
			return "", false, err
		}
		m.over = len(piece) == 0
		m.left = append(m.left, piece...)
	}
	lines := []byte("\n")
	if rs == "" {
		m.left = bytes.TrimLeft(m.left, "\n")
	}
	if len(m.left) == 0 {
		return "", false, api.OK
	}
	m.ended = false
	if rs != "" {
		record, left, _ := bytes.Cut(m.left, []byte(rs[:1]))
		m.left = left
		return string(record), true, api.OK
	}
	record, left, two := bytes.Cut(m.left, []byte("\n\n"))
	m.left = bytes.TrimLeft(left, "\n")
	if !two {
		record = bytes.TrimSuffix(record, lines)
	}
	return string(record), true, api.OK
}

func (m *model) Ended() bool { return m.ended }

// two are a world with a reader and a world with a model, of one script.
type two struct {
	t        *testing.T
	one, may *world.World
	readers  []next
	models   []next
}

func twoOf(t *testing.T, s api.Script) *two {
	return &two{t: t, one: worldOf(t, s), may: worldOf(t, s)}
}

// reader makes another reader and another model.
func (w *two) reader(k api.StreamKind, name string) {
	r, err := New(w.one, k, name)
	if may := w.may.Open(k, name); err != may {
		w.t.Errorf("New(%d, %q) = %d; want %d", k, name, err, may)
	}
	if err == api.OK {
		w.readers = append(w.readers, r)
		w.models = append(w.models, &model{w: w.may, kind: k, name: name})
	}
}

func (w *two) next(i int, rs string) {
	s, ok, err := w.readers[i].Next(rs)
	may, mayOK, mayErr := w.models[i].Next(rs)
	if s != may || ok != mayOK || err != mayErr {
		w.t.Errorf("reader %d, Next(%q) = %q, %v, %d; want %q, %v, %d", i, rs, short(s), ok, err, short(may), mayOK, mayErr)
	}
	w.ended(i)
}

func (w *two) ended(i int) {
	if ended, may := w.readers[i].Ended(), w.models[i].Ended(); ended != may {
		w.t.Errorf("reader %d, Ended() = %v", i, ended)
	}
}

// left says that both worlds have still the same to give.
func (w *two) left(k api.StreamKind, name string, n int) {
	s, err := w.one.Read(k, name, n)
	may, mayErr := w.may.Read(k, name, n)
	if s != may || err != mayErr {
		w.t.Errorf("the stream %q has still %q, %d; want %q, %d", name, short(s), err, short(may), mayErr)
	}
}

// P10.1 to P10.3: all short sources by all short rows of RS, each source behind
// so many other bytes that a piece's end stands in it.
func TestShortRows(t *testing.T) {
	ends := rows([]string{"", "\n", "a"}, 3)
	for _, source := range texts([]string{"\n", "a", "b"}, 4) {
		for _, ahead := range []int{0, 508, 509, 510, 511} {
			for _, row := range ends {
				w := twoOf(t, api.Script{Stdin: bytesOf(ahead) + source, Streams: 1})
				w.reader(api.InFile, "-")
				w.ended(0)
				for _, rs := range row {
					w.next(0, rs)
				}
				w.left(api.InFile, "-", all)
				if t.Failed() {
					t.Fatalf("of %d bytes and %q, by %q", ahead, source, row)
				}
			}
		}
	}
}

// Bytes 10 ahead of all and in the middle, at the ends of pieces: all short
// texts behind nothing else than lines without bytes.
func TestShortRowsOfLines(t *testing.T) {
	for _, lines := range []int{509, 510, 511, 512, 513, 1023} {
		for _, source := range texts([]string{"\n", "a"}, 5) {
			for _, row := range [][]string{{""}, {"", ""}, {"", "", ""}, {"", "\n", ""}, {"a", "", ""}} {
				w := twoOf(t, api.Script{Stdin: string(bytes.Repeat([]byte{'\n'}, lines)) + source, Streams: 1})
				w.reader(api.InFile, "-")
				for _, rs := range row {
					w.next(0, rs)
				}
				w.left(api.InFile, "-", all)
				if t.Failed() {
					t.Fatalf("of %d bytes 10 and %q, by %q", lines, source, row)
				}
			}
		}
	}
}

// sourceOf tells bytes of few kinds: runs of one of them, short and long.
func sourceOf(random *rand.Rand) string {
	var s []byte
	for range random.Intn(30) {
		run := 1 + random.Intn(4)
		if random.Intn(6) == 0 {
			run = random.Intn(1100)
		}
		s = append(s, bytes.Repeat([]byte{"\n\n\nab\xff"[random.Intn(6)]}, run)...)
	}
	return string(s)
}

// Long rows of calls, of more readers than one, while streams are read, closed,
// opened and written beside them.
func TestLongRows(t *testing.T) {
	random := seeded()
	names := []string{"-", "f", "g", "c"}
	for row := range 6000 {
		s := api.Script{
			Stdin:   sourceOf(random),
			Files:   []api.Content{{Name: "f", Data: sourceOf(random)}, {Name: "g", Data: sourceOf(random)}},
			Replies: []api.Reply{{Command: "c", Output: sourceOf(random), Status: 3}},
			Streams: 1 + random.Intn(5),
		}
		if random.Intn(4) == 0 {
			s.Fails = []api.Fail{{Op: uint8(1 + random.Intn(2)), Name: names[random.Intn(4)]}}
		}
		w := twoOf(t, s)
		var did []string
		for range 40 {
			did = append(did, w.anything(random, names[random.Intn(4)]))
			if t.Failed() {
				t.Fatalf("row %d: %q", row, did)
			}
		}
	}
}

// anything does something with both worlds, and tells what.
func (w *two) anything(random *rand.Rand, name string) string {
	k := api.StreamKind(random.Intn(2)) + api.InFile
	switch n := random.Intn(24); {
	case n < 2 || len(w.readers) == 0:
		w.reader(k, name)
		return fmt.Sprintf("reader %d %s", k, name)
	case n == 2:
		w.one.Close(name)
		w.may.Close(name)
		return "close " + name
	case n == 3:
		w.one.Open(k, name)
		w.may.Open(k, name)
		return fmt.Sprintf("open %d %s", k, name)
	case n == 4:
		w.left(k, name, 1+random.Intn(600))
		return fmt.Sprintf("read %d %s", k, name)
	case n == 5:
		for _, of := range []*world.World{w.one, w.may} {
			of.Open(api.OutAppend, name)
			of.Write(api.OutAppend, name, "b\n\nab")
		}
		return "write " + name
	case n == 6:
		w.ended(random.Intn(len(w.readers)))
		return "ended"
	default:
		i, rs := random.Intn(len(w.readers)), []string{"", "", "\n", "\n", "a", "b", "\xffa", "x"}[random.Intn(8)]
		w.next(i, rs)
		return fmt.Sprintf("next %d %q", i, rs)
	}
}
