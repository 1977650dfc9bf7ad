package host

import (
	"math"
	"math/rand"
	"slices"
	"strconv"
	"testing"

	"winnower/api"
	"winnower/world"
)

// mostFields is how many fields a record may have, as the chapters have it.
const mostFields = 10000

// wrong is a CONVFMT that is no format, and noPattern what is no pattern.
const (
	wrong     = "%z"
	noPattern = "(a"
)

func seeded() *rand.Rand {
	return rand.New(rand.NewSource(17))
}

// The cells, laid part by part.

func none() api.Cell {
	return api.Cell{}
}

func num(f float64) api.Cell {
	return api.Cell{Kind: api.Num, N: math.Float64bits(f)}
}

func nan() api.Cell {
	return api.Cell{Kind: api.Num, N: api.NaN}
}

func str(s string) api.Cell {
	return api.Cell{Kind: api.Str, S: s}
}

func strNum(s string, f float64) api.Cell {
	return api.Cell{Kind: api.StrNum, N: math.Float64bits(f), S: s}
}

func list(l ...api.Cell) []api.Cell {
	return l
}

// half is a number that has no text by a CONVFMT that is no format.
func half() api.Cell {
	return num(0.5)
}

var (
	inf     = math.Inf(1)
	nought  = math.Copysign(0, -1)
	nothing []api.Cell
)

// someCells are cells of all kinds, right ones and others.
func someCells() []api.Cell {
	return []api.Cell{
		{}, num(0), num(nought), num(1), num(2.5), num(-3), num(1e300), num(5e-324), num(inf), num(-inf), nan(), str(""), str("x"), str("12"), str("a b\nc"), str(noPattern), str("%d"), str("-"), strNum(" 12\n", 12), strNum("0", 0), strNum("-0.5", -0.5),
		// Not right: more than the kind has, a number in another form, kinds
		// that there are not.
		{S: "x"}, {N: 7}, {Kind: api.Num, N: 0xfff0000000000001}, {Kind: api.Num, N: 1, S: "x"}, {Kind: api.Str, N: 7, S: "x"}, {Kind: api.StrNum, S: "x"}, {Kind: 4, S: "x"}, {Kind: 255, N: 1<<64 - 1, S: "\xff"},
	}
}

// specials are the names of all of them, as chapter 16 has them.
func specials() []string {
	return []string{"NR", "NF", "FNR", "FS", "OFS", "ORS", "RS", "FILENAME", "SUBSEP", "RSTART", "RLENGTH", "CONVFMT", "OFMT"}
}

// counts are the builtins that Call does, each with the least and the greatest
// number of its arguments.
func counts() map[string][2]int {
	return map[string][2]int{"length": {0, 1}, "substr": {2, 3}, "index": {2, 2}, "match": {2, 2}, "sprintf": {1, math.MaxInt}, "tolower": {1, 1}, "toupper": {1, 1}, "int": {1, 1}, "close": {1, 1}, "system": {1, 1}, "srand": {0, 1}, "rand": {0, 0}}
}

func worldOf(t *testing.T, s api.Script) *world.World {
	t.Helper()
	w, err := world.New(s)
	if err != api.OK {
		t.Fatalf("world.New(%+v) = %d", s, err)
	}
	return w
}

// hostOf tells a host of a script, with the files that are handed in.
func hostOf(t *testing.T, s api.Script, files ...string) (*Host, *world.World) {
	t.Helper()
	w := worldOf(t, s)
	h, err := New(w, files)
	if err != api.OK || h == nil {
		t.Fatalf("New(.., %q) = %v, %d", files, h, err)
	}
	return h, w
}

// handed tells a host that is handed a text.
func handed(t *testing.T, stdin string) *Host {
	t.Helper()
	h, _ := hostOf(t, api.Script{Stdin: stdin, Streams: 8})
	return h
}

// recordOf tells a host whose record is a text, by an FS.
func recordOf(t *testing.T, text, fs string) *Host {
	t.Helper()
	h := handed(t, "")
	sets(t, h, "FS", str(fs))
	setsField(t, h, num(0), str(text))
	return h
}

// files tells files by their names and bytes, one behind the other.
func files(l ...string) []api.Content {
	var all []api.Content
	for i := 0; i < len(l); i += 2 {
		all = append(all, api.Content{Name: l[i], Data: l[i+1]})
	}
	return all
}

// brief keeps what a failing test tells short.
func brief(s string) string {
	if len(s) < 90 {
		return strconv.Quote(s)
	}
	return strconv.Quote(s[:40]) + ".." + strconv.Quote(s[len(s)-40:]) + " of " + strconv.Itoa(len(s)) + " bytes"
}

func is(t *testing.T, h *Host, name string, want api.Cell) {
	t.Helper()
	if c, err := h.Get(name); c != want || err != api.OK {
		t.Errorf("Get(%q) = %+v, %d; want %+v", name, c, err, want)
	}
}

// are says what some numbers are: of each name, behind it, its number.
func are(t *testing.T, h *Host, l ...any) {
	t.Helper()
	for i := 0; i < len(l); i += 2 {
		is(t, h, l[i].(string), num(float64(l[i+1].(int))))
	}
}

func isNot(t *testing.T, h *Host, name string, want api.Errno) {
	t.Helper()
	if c, err := h.Get(name); c != none() || err != want {
		t.Errorf("Get(%q) = %+v, %d; want error %d", name, c, err, want)
	}
}

func sets(t *testing.T, h *Host, name string, c api.Cell) {
	t.Helper()
	setsNot(t, h, name, c, api.OK)
}

func setsNot(t *testing.T, h *Host, name string, c api.Cell, want api.Errno) {
	t.Helper()
	if err := h.Set(name, c); err != want {
		t.Errorf("Set(%q, %+v) = %d; want %d", name, c, err, want)
	}
}

func hasText(t *testing.T, h *Host, c api.Cell, want string) {
	t.Helper()
	if s, err := h.Text(c); s != want || err != api.OK {
		t.Errorf("Text(%+v) = %s, %d; want %s", c, brief(s), err, brief(want))
	}
}

func hasNoText(t *testing.T, h *Host, c api.Cell, want api.Errno) {
	t.Helper()
	if s, err := h.Text(c); s != "" || err != want {
		t.Errorf("Text(%+v) = %s, %d; want error %d", c, brief(s), err, want)
	}
}

func keyIs(t *testing.T, h *Host, want string, l ...api.Cell) {
	t.Helper()
	if s, err := h.Key(l); s != want || err != api.OK {
		t.Errorf("Key(%+v) = %s, %d; want %s", l, brief(s), err, brief(want))
	}
}

func keyIsNot(t *testing.T, h *Host, want api.Errno, l ...api.Cell) {
	t.Helper()
	if s, err := h.Key(l); s != "" || err != want {
		t.Errorf("Key(%+v) = %s, %d; want error %d", l, brief(s), err, want)
	}
}

func isField(t *testing.T, h *Host, n, want api.Cell) {
	t.Helper()
	if c, err := h.Field(n); c != want || err != api.OK {
		t.Errorf("Field(%+v) = %+v, %d; want %+v", n, c, err, want)
	}
}

func isNoField(t *testing.T, h *Host, n api.Cell, want api.Errno) {
	t.Helper()
	if c, err := h.Field(n); c != none() || err != want {
		t.Errorf("Field(%+v) = %+v, %d; want error %d", n, c, err, want)
	}
}

func setsField(t *testing.T, h *Host, n, c api.Cell) {
	t.Helper()
	setsNoField(t, h, n, c, api.OK)
}

func setsNoField(t *testing.T, h *Host, n, c api.Cell, want api.Errno) {
	t.Helper()
	if err := h.SetField(n, c); err != want {
		t.Errorf("SetField(%+v, %+v) = %d; want %d", n, c, err, want)
	}
}

// recordIs says what the record's text is, which looks like no number.
func recordIs(t *testing.T, h *Host, want string) {
	t.Helper()
	isField(t, h, num(0), str(want))
}

// fieldsAre says what all fields are, of which none looks like a number.
func fieldsAre(t *testing.T, h *Host, want ...string) {
	t.Helper()
	are(t, h, "NF", len(want))
	for i, s := range want {
		isField(t, h, num(float64(i+1)), str(s))
	}
	if len(want) < mostFields {
		isField(t, h, num(float64(len(want)+1)), none())
	}
}

func wasSplit(t *testing.T, h *Host, want int) {
	t.Helper()
	if n := h.Splits(); n != want {
		t.Errorf("Splits() = %d; want %d", n, want)
	}
}

// goesOn says that there is a next record of the main input, and what it is; it
// looks like no number.
func goesOn(t *testing.T, h *Host, want string) {
	t.Helper()
	if ok, err := h.Next(); !ok || err != api.OK {
		t.Errorf("Next() = %v, %d; want %s", ok, err, brief(want))
	}
	recordIs(t, h, want)
}

// isOver says that there is no record any more, however often one is asked for.
func isOver(t *testing.T, h *Host) {
	t.Helper()
	for range 3 {
		goesNotOn(t, h, api.OK)
	}
}

func goesNotOn(t *testing.T, h *Host, want api.Errno) {
	t.Helper()
	if ok, err := h.Next(); ok || err != want {
		t.Errorf("Next() = %v, %d; want false, %d", ok, err, want)
	}
}

// reads says what getline tells: a number and a cell.
func reads(t *testing.T, h *Host, kind int, source api.Cell, into bool, want int, wantCell api.Cell) {
	t.Helper()
	if n, c, err := h.Getline(kind, source, into); n != want || c != wantCell || err != api.OK {
		t.Errorf("Getline(%d, %+v, %v) = %d, %+v, %d; want %d, %+v", kind, source, into, n, c, err, want, wantCell)
	}
}

func readsNot(t *testing.T, h *Host, kind int, source api.Cell, into bool, want api.Errno) {
	t.Helper()
	if n, c, err := h.Getline(kind, source, into); n != 0 || c != none() || err != want {
		t.Errorf("Getline(%d, %+v, %v) = %d, %+v, %d; want error %d", kind, source, into, n, c, err, want)
	}
}

func prints(t *testing.T, h *Host, kind int, dest api.Cell, format bool, args ...api.Cell) {
	t.Helper()
	printsNot(t, h, kind, dest, format, api.OK, args...)
}

func printsNot(t *testing.T, h *Host, kind int, dest api.Cell, format bool, want api.Errno, args ...api.Cell) {
	t.Helper()
	if err := h.Print(kind, dest, args, format); err != want {
		t.Errorf("Print(%d, %+v, %+v, %v) = %d; want %d", kind, dest, args, format, err, want)
	}
}

func makes(t *testing.T, h *Host, op string, a, b, want api.Cell) {
	t.Helper()
	if c, err := h.Arith(op, a, b); c != want || err != api.OK {
		t.Errorf("Arith(%q, %+v, %+v) = %+v, %d; want %+v", op, a, b, c, err, want)
	}
}

func makesNot(t *testing.T, h *Host, op string, a, b api.Cell, want api.Errno) {
	t.Helper()
	if c, err := h.Arith(op, a, b); c != none() || err != want {
		t.Errorf("Arith(%q, %+v, %+v) = %+v, %d; want error %d", op, a, b, c, err, want)
	}
}

func finds(t *testing.T, h *Host, c, pattern api.Cell, want bool) {
	t.Helper()
	if got, err := h.Match(c, pattern); got != one(want) || err != api.OK {
		t.Errorf("Match(%+v, %+v) = %+v, %d; want %v", c, pattern, got, err, want)
	}
}

func findsNot(t *testing.T, h *Host, c, pattern api.Cell, want api.Errno) {
	t.Helper()
	if got, err := h.Match(c, pattern); got != none() || err != want {
		t.Errorf("Match(%+v, %+v) = %+v, %d; want error %d", c, pattern, got, err, want)
	}
}

// one tells the cell of 1 or 0.
func one(holds bool) api.Cell {
	if holds {
		return num(1)
	}
	return num(0)
}

func calls(t *testing.T, h *Host, name string, want api.Cell, args ...api.Cell) {
	t.Helper()
	if c, err := h.Call(name, args); c != want || err != api.OK {
		t.Errorf("Call(%q, %+v) = %+v, %d; want %+v", name, args, c, err, want)
	}
}

func callsNot(t *testing.T, h *Host, name string, want api.Errno, args ...api.Cell) {
	t.Helper()
	if c, err := h.Call(name, args); c != none() || err != want {
		t.Errorf("Call(%q, %+v) = %+v, %d; want error %d", name, args, c, err, want)
	}
}

func splits(t *testing.T, h *Host, s api.Cell, fs []api.Cell, want ...string) {
	t.Helper()
	if l, err := h.Split(s, fs); !slices.Equal(l, want) || err != api.OK {
		t.Errorf("Split(%+v, %+v) = %q, %d; want %q", s, fs, l, err, want)
	}
}

func splitsNot(t *testing.T, h *Host, s api.Cell, fs []api.Cell, want api.Errno) {
	t.Helper()
	if l, err := h.Split(s, fs); l != nil || err != want {
		t.Errorf("Split(%+v, %+v) = %q, %d; want error %d", s, fs, l, err, want)
	}
}

func subs(t *testing.T, h *Host, pattern, repl, target api.Cell, all bool, want int, text string) {
	t.Helper()
	if n, s, err := h.Sub(pattern, repl, target, all); n != want || s != text || err != api.OK {
		t.Errorf("Sub(%q, %q, %q, %v) = %d, %s, %d; want %d, %s", pattern.S, repl.S, target.S, all, n, brief(s), err, want, brief(text))
	}
}

func subsNot(t *testing.T, h *Host, pattern, repl, target api.Cell, all bool, want api.Errno) {
	t.Helper()
	if n, s, err := h.Sub(pattern, repl, target, all); n != 0 || s != "" || err != want {
		t.Errorf("Sub(%+v, %+v, %+v, %v) = %d, %s, %d; want error %d", pattern, repl, target, all, n, brief(s), err, want)
	}
}

// traced says what all of the trace is.
func traced(t *testing.T, w *world.World, want ...api.Event) {
	t.Helper()
	if got := w.Trace(); !slices.Equal(got, want) {
		t.Errorf("Trace() = %+v; want %+v", got, want)
	}
}

// written says what was written to Stdout, and that nothing else was done.
func written(t *testing.T, w *world.World, want ...string) {
	t.Helper()
	var events []api.Event
	for _, data := range want {
		events = append(events, wrote(api.Stdout, "", data))
	}
	traced(t, w, events...)
}

func opened(k api.StreamKind, name string) api.Event {
	return api.Event{Kind: api.EvOpen, Stream: k, Name: name}
}

func wrote(k api.StreamKind, name, data string) api.Event {
	return api.Event{Kind: api.EvWrite, Stream: k, Name: name, Data: data}
}

func closed(k api.StreamKind, name string, status int) api.Event {
	return api.Event{Kind: api.EvClose, Stream: k, Name: name, Status: status}
}

func ran(command string, status int) api.Event {
	return api.Event{Kind: api.EvSystem, Name: command, Status: status}
}
