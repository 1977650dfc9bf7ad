package host

import (
	"fmt"
	"math"
	"math/rand"
	"slices"
	"strings"
	"testing"

	"winnower/api"
	"winnower/cells"
	"winnower/fields"
	"winnower/match"
	"winnower/octets"
	"winnower/printf"
	"winnower/shape"
	"winnower/world"
)

// model is a host, word by word as the chapter has it. Streams are read whole
// when they are opened: none of these tests has more than one piece.
type model struct {
	script   api.Script
	w        *world.World
	specials map[string]api.Cell
	rec      *fields.Record
	fs       string
	files    []string
	main     *modelSource
	readers  map[string]*modelSource
	seed     float64
	records  int // how many were told
}

type modelSource struct {
	name  string
	rest  string
	again []string
}

func newModel(w *world.World, s api.Script, files []string) *model {
	m := &model{script: s, w: w, specials: map[string]api.Cell{}, rec: fields.New("", false), fs: " ", files: files, readers: map[string]*modelSource{}}
	if len(files) == 0 {
		m.files = []string{"-"}
	}
	for _, name := range specials() {
		m.specials[name] = num(0)
	}
	m.specials["RLENGTH"], m.specials["FILENAME"] = num(-1), none()
	m.specials["FS"], m.specials["OFS"], m.specials["ORS"], m.specials["RS"] = str(" "), str(" "), str("\n"), str("\n")
	m.specials["SUBSEP"], m.specials["CONVFMT"], m.specials["OFMT"] = str("\x1c"), str("%.6g"), str("%.6g")
	return m
}

// fault is an error on its way up.
type fault api.Errno

func must[T any](x T, err api.Errno) T {
	if err != api.OK {
		panic(fault(err))
	}
	return x
}

func refuse(err api.Errno) {
	if err != api.OK {
		panic(fault(err))
	}
}

// caught tells the error that went up.
func caught(err *api.Errno) {
	switch x := recover().(type) {
	case nil:
	case fault:
		*err = api.Errno(x)
	default:
		panic(x)
	}
}

func (m *model) convfmt() string {
	return must(cells.String(m.specials["CONVFMT"], "%.6g"))
}

func (m *model) text(c api.Cell) string {
	return must(cells.String(c, m.convfmt()))
}

func (m *model) special(name string) string {
	return m.text(m.specials[name])
}

func wholeOf(c api.Cell) int {
	f := math.Trunc(cells.Num(c))
	if !(f >= -1<<31 && f <= 1<<31) {
		panic(fault(api.ErrField))
	}
	return int(f)
}

func (m *model) setRecord(text string) {
	lines := m.special("RS") == ""
	m.fs = m.special("FS")
	m.rec.Set(text, lines)
}

func (m *model) whole() string {
	return must(m.rec.Text(m.special("OFS"), m.convfmt()))
}

func (m *model) Get(name string) (c api.Cell, err api.Errno) {
	defer caught(&err)
	if !slices.Contains(specials(), name) {
		return none(), api.ErrArg
	}
	if name == "NF" {
		return num(float64(must(m.rec.NF(m.fs)))), api.OK
	}
	return m.specials[name], api.OK
}

func (m *model) Set(name string, c api.Cell) (err api.Errno) {
	defer caught(&err)
	if !slices.Contains(specials(), name) {
		return api.ErrArg
	}
	if name == "NF" {
		return m.rec.SetNF(wholeOf(c), m.fs)
	}
	m.specials[name] = c
	return api.OK
}

func (m *model) Field(n api.Cell) (c api.Cell, err api.Errno) {
	defer caught(&err)
	if wholeOf(n) == 0 {
		return cells.Look(m.whole()), api.OK
	}
	return m.rec.Field(wholeOf(n), m.fs)
}

func (m *model) SetField(n, c api.Cell) (err api.Errno) {
	defer caught(&err)
	if wholeOf(n) == 0 {
		m.setRecord(m.text(c))
		return api.OK
	}
	return m.rec.SetField(wholeOf(n), c, m.fs)
}

// open opens a stream, of which all is read at once.
func (m *model) open(k api.StreamKind, name string) *modelSource {
	refuse(m.w.Open(k, name))
	s := &modelSource{name: name}
	switch {
	case k == api.InFile && name == "-":
		s.rest = m.script.Stdin
	case k == api.InFile:
		s.rest, _ = m.w.File(name)
	default:
		for _, r := range m.script.Replies {
			if r.Command == name {
				s.rest = r.Output
			}
		}
	}
	return s
}

// next tells the next record of a source, and whether there is one.
func (m *model) next(s *modelSource) (string, bool) {
	rs := m.special("RS")
	if slices.Contains(m.script.Fails, api.Fail{Op: 2, Name: s.name}) {
		panic(fault(api.ErrRead))
	}
	if len(s.again) > 0 {
		record := s.again[0]
		s.again = nil
		return record, true
	}
	end, trim := "\n\n", "\n"
	if rs == "" {
		s.rest = strings.TrimLeft(s.rest, "\n")
	} else {
		end, trim = rs[:1], ""
	}
	if s.rest == "" {
		return "", false
	}
	record, rest, found := strings.Cut(s.rest, end)
	if !found {
		record = strings.TrimSuffix(record, trim)
	}
	s.rest = strings.TrimLeft(rest, trim)
	return record, true
}

// nextMain tells the next record of the main input.
func (m *model) nextMain() (string, bool) {
	for m.main != nil || len(m.files) > 0 {
		if m.main == nil {
			name := m.files[0]
			m.files = m.files[1:]
			m.specials["FNR"], m.specials["FILENAME"] = num(0), str(name)
			m.main = m.open(api.InFile, name)
		}
		if record, ok := m.next(m.main); ok {
			return record, true
		}
		m.main = nil
	}
	return "", false
}

func (m *model) more(name string) {
	m.specials[name] = cells.Number(cells.Num(m.specials[name]) + 1)
}

// setRead sets the record to what was read of a source.
func (m *model) setRead(s *modelSource, record string) {
	defer func() {
		if x := recover(); x != nil {
			s.again = []string{record}
			panic(x)
		}
	}()
	m.setRecord(record)
}

func (m *model) Next() (ok bool, err api.Errno) {
	n, _, err := m.getline(1, none(), false)
	return n > 0, err
}

func (m *model) Getline(kind int, source api.Cell, into bool) (int, api.Cell, api.Errno) {
	n, c, err := m.getline(kind, source, into)
	if err == api.ErrOpen || err == api.ErrRead {
		return -1, none(), api.OK
	}
	return n, c, err
}

func (m *model) getline(kind int, source api.Cell, into bool) (n int, c api.Cell, err api.Errno) {
	defer caught(&err)
	if kind < 1 || kind > 3 {
		return 0, none(), api.ErrArg
	}
	var record string
	var ok bool
	var s *modelSource
	if kind == 1 {
		record, ok = m.nextMain()
		s = m.main
	} else {
		k := []api.StreamKind{api.InFile, api.InPipe}[kind-2]
		name := m.text(source)
		key := fmt.Sprint(k, name)
		if m.readers[key] == nil {
			m.readers[key] = m.open(k, name)
		}
		s = m.readers[key]
		record, ok = m.next(s)
	}
	if !ok {
		return 0, none(), api.OK
	}
	if !into {
		m.setRead(s, record)
	}
	if kind != 2 {
		m.more("NR")
	}
	if kind == 1 {
		m.more("FNR")
	}
	m.records++
	return 1, cells.Look(record), api.OK
}

func (m *model) Print(kind int, dest api.Cell, args []api.Cell, format bool) (err api.Errno) {
	defer caught(&err)
	if kind < 0 || kind > 3 || format && len(args) == 0 {
		return api.ErrArg
	}
	k := []api.StreamKind{api.Stdout, api.OutFile, api.OutAppend, api.OutPipe}[kind]
	name := ""
	if kind > 0 {
		name = m.text(dest)
	}
	data := ""
	switch {
	case format:
		data = must(printf.Format(m.text(args[0]), args[1:], m.convfmt()))
	case len(args) == 0:
		data = m.whole() + m.special("ORS")
	default:
		var parts []string
		for _, c := range args {
			if c.Kind == api.Num {
				parts = append(parts, must(cells.String(c, m.special("OFMT"))))
			} else {
				parts = append(parts, m.text(c))
			}
		}
		data = parts[0]
		for _, part := range parts[1:] {
			data += m.special("OFS") + part
		}
		data += m.special("ORS")
	}
	if kind > 0 {
		refuse(m.w.Open(k, name))
	}
	return m.w.Write(k, name, data)
}

func (m *model) Text(c api.Cell) (s string, err api.Errno) {
	defer caught(&err)
	return m.text(c), api.OK
}

func (m *model) Key(l []api.Cell) (s string, err api.Errno) {
	defer caught(&err)
	var parts []string
	for _, c := range l {
		parts = append(parts, m.text(c))
	}
	for i, part := range parts {
		if i > 0 {
			s += m.special("SUBSEP")
		}
		s += part
	}
	return s, api.OK
}

func (m *model) matcher(pattern string) *match.Matcher {
	return must(match.New(must(shape.Parse(pattern))))
}

func (m *model) Match(c, pattern api.Cell) (x api.Cell, err api.Errno) {
	defer caught(&err)
	s, p := m.text(c), m.text(pattern)
	return one(m.matcher(p).Has(s)), api.OK
}

func (m *model) Split(s api.Cell, fs []api.Cell) (l []string, err api.Errno) {
	defer caught(&err)
	text := m.text(s)
	by := m.specials["FS"]
	if len(fs) > 0 {
		by = fs[0]
	}
	return fields.Split(text, m.text(by), false)
}

func (m *model) Sub(pattern, repl, target api.Cell, all bool) (n int, s string, err api.Errno) {
	defer caught(&err)
	p, r, text := m.text(pattern), m.text(repl), m.text(target)
	l := allFound(m.matcher(p), text)
	if !all {
		l = l[:min(len(l), 1)]
	}
	return len(l), replaced(text, r, l), api.OK
}

func (m *model) Call(name string, args []api.Cell) (c api.Cell, err api.Errno) {
	defer caught(&err)
	if count, ok := counts()[name]; !ok || len(args) < count[0] || len(args) > count[1] {
		return none(), api.ErrArg
	}
	text := func(i int) string { return m.text(args[i]) }
	number := func(n int) api.Cell { return num(float64(n)) }
	switch name {
	case "length":
		if len(args) == 0 {
			return number(len(m.whole())), api.OK
		}
		return number(len(text(0))), api.OK
	case "index":
		return number(octets.Index(text(0), text(1))), api.OK
	case "substr":
		s := text(0)
		for _, c := range args[1:] {
			if math.IsNaN(cells.Num(c)) {
				return str(""), api.OK
			}
		}
		from, to := nearest(cells.Num(args[1])), len(s)+1
		if len(args) > 2 {
			to = from + nearest(cells.Num(args[2]))
		}
		part := ""
		for at := range len(s) {
			if at+1 >= from && at+1 < to {
				part += s[at : at+1]
			}
		}
		return str(part), api.OK
	case "match":
		s, p := text(0), text(1)
		at, n, ok := m.matcher(p).Find(s, 0)
		m.specials["RSTART"], m.specials["RLENGTH"] = num(0), num(-1)
		if ok {
			m.specials["RSTART"], m.specials["RLENGTH"] = number(at+1), number(n)
		}
		return m.specials["RSTART"], api.OK
	case "sprintf":
		return str(must(printf.Format(text(0), args[1:], m.convfmt()))), api.OK
	case "tolower":
		return str(octets.Lower(text(0))), api.OK
	case "toupper":
		return str(octets.Upper(text(0))), api.OK
	case "int":
		if f := math.Trunc(cells.Num(args[0])); f != 0 {
			return cells.Number(f), api.OK
		}
		return num(0), api.OK
	case "srand":
		old := m.seed
		m.seed = float64(m.script.Clock)
		if len(args) > 0 {
			m.seed = cells.Num(args[0])
		}
		return cells.Number(old), api.OK
	case "rand":
		return num(float64(m.w.Chance()>>11) / (1 << 53)), api.OK
	case "close":
		name := text(0)
		status, ok := m.w.Close(name)
		delete(m.readers, fmt.Sprint(api.InFile, name))
		delete(m.readers, fmt.Sprint(api.InPipe, name))
		if !ok {
			status = -1
		}
		return number(status), api.OK
	}
	status, bad := m.w.System(text(0))
	if bad != api.OK {
		status = -1
	}
	return number(status), api.OK
}

func (m *model) Splits() int { return m.rec.Splits() }
func (m *model) End()        { m.w.CloseAll() }

// asked is what a host and a model may be asked for.
type asked interface {
	Get(name string) (api.Cell, api.Errno)
	Set(name string, c api.Cell) api.Errno
	Field(n api.Cell) (api.Cell, api.Errno)
	SetField(n, c api.Cell) api.Errno
	Next() (bool, api.Errno)
	Getline(kind int, source api.Cell, into bool) (int, api.Cell, api.Errno)
	Print(kind int, dest api.Cell, args []api.Cell, format bool) api.Errno
	Text(c api.Cell) (string, api.Errno)
	Key(l []api.Cell) (string, api.Errno)
	Match(c, pattern api.Cell) (api.Cell, api.Errno)
	Call(name string, args []api.Cell) (api.Cell, api.Errno)
	Split(s api.Cell, fs []api.Cell) ([]string, api.Errno)
	Sub(pattern, repl, target api.Cell, all bool) (int, string, api.Errno)
	Splits() int
	End()
}

// wildCell tells a cell of a few texts and numbers.
func wildCell(r *rand.Rand) api.Cell {
	switch r.Intn(6) {
	case 0:
		return num(float64(r.Intn(6) - 1))
	case 1:
		return num([]float64{0.5, 1.25, -0.5, 2.5, 1e20, 10001, 5e9, inf}[r.Intn(8)])
	case 2:
		return []api.Cell{none(), strNum(" 2 ", 2), strNum("0", 0), str(""), nan()}[r.Intn(5)]
	case 3:
		return str([]string{"a", "b", "x y", "a:b", "aab", "a b\nc:a", "&", `\&`, "%s|%d"}[r.Intn(9)])
	}
	return str([]string{"a", ":", " ", "a*", "[ab]", "b|:", "^a", noPattern, "\n"}[r.Intn(9)])
}

func wildCells(r *rand.Rand, most int) []api.Cell {
	l := make([]api.Cell, r.Intn(most+1))
	for i := range l {
		l[i] = wildCell(r)
	}
	return l
}

// wildValue tells what a special may be set to.
func wildValue(r *rand.Rand, name string) api.Cell {
	if r.Intn(4) == 0 {
		return wildCell(r)
	}
	switch name {
	case "FS":
		return str([]string{" ", ":", "", "a", "[:a]+", "x*", noPattern}[r.Intn(7)])
	case "RS":
		return str([]string{"\n", "", ":", "ab", " "}[r.Intn(5)])
	case "CONVFMT", "OFMT":
		return str([]string{"%.6g", "%.6g", "%.2f", "%d", wrong}[r.Intn(5)])
	case "OFS", "ORS", "SUBSEP":
		return str([]string{" ", "-", "", "\n", ":"}[r.Intn(5)])
	}
	return wildCell(r)
}

// call is something that is asked, and how that is told; do tells the answer.
type call struct {
	told string
	do   func(a asked) string
}

func told(what ...any) string {
	return strings.TrimSuffix(fmt.Sprintf("%+v ", what), " ")
}

// wildRead tells a call that reads.
func wildRead(r *rand.Rand) call {
	kind, into := r.Intn(5), r.Intn(2) == 0
	source := str([]string{"f", "g", "c", "none"}[r.Intn(4)])
	if r.Intn(8) == 0 {
		source = half()
	}
	if r.Intn(3) == 0 {
		return call{"Next", func(a asked) string {
			ok, err := a.Next()
			return told(ok, err)
		}}
	}
	return call{told("Getline", kind, source, into), func(a asked) string {
		n, c, err := a.Getline(kind, source, into)
		return told(n, c, err)
	}}
}

// wildTold tells a call that changes nothing but the world, or RSTART.
func wildTold(r *rand.Rand) call {
	x, y, z, l, all := wildCell(r), wildCell(r), wildCell(r), wildCells(r, 3), r.Intn(2) == 0
	kind := r.Intn(6) - 1
	dest := str([]string{"f", "g", "o", "c"}[r.Intn(4)])
	var names []string
	for name := range counts() {
		names = append(names, name)
	}
	slices.Sort(names)
	name := names[r.Intn(len(names))]
	switch r.Intn(8) {
	case 0, 1:
		return call{told("Print", kind, dest, l, all), func(a asked) string { return told(a.Print(kind, dest, l, all)) }}
	case 2:
		return call{told("Key", l), func(a asked) string {
			s, err := a.Key(l)
			return told(s, err)
		}}
	case 3:
		return call{told("Match", x, y), func(a asked) string {
			c, err := a.Match(x, y)
			return told(c, err)
		}}
	case 4:
		return call{told("Split", x, l), func(a asked) string {
			parts, err := a.Split(x, l)
			return told(len(parts), parts, err)
		}}
	case 5:
		return call{told("Sub", x, y, z, all), func(a asked) string {
			n, s, err := a.Sub(x, y, z, all)
			return told(n, s, err)
		}}
	case 6:
		l = []api.Cell{dest}
		return call{told("close", l), func(a asked) string {
			c, err := a.Call("close", l)
			return told(c, err)
		}}
	}
	if name == "close" {
		// The main input is not closed: chapter 17 says little of that.
		l = []api.Cell{dest}
	}
	return call{told(name, l), func(a asked) string {
		c, err := a.Call(name, l)
		return told(c, err)
	}}
}

// wildCall tells any call.
func wildCall(r *rand.Rand) call {
	name := append(specials(), "x", "NF", "NF")[r.Intn(16)]
	n := num(float64(r.Intn(5)))
	if r.Intn(6) == 0 {
		n = wildCell(r)
	}
	value, c := wildValue(r, name), wildCell(r)
	switch r.Intn(11) {
	case 0:
		return call{told("Get", name), func(a asked) string {
			c, err := a.Get(name)
			return told(c, err)
		}}
	case 1, 2:
		return call{told("Set", name, value), func(a asked) string { return told(a.Set(name, value)) }}
	case 3, 4:
		return call{told("Field", n), func(a asked) string {
			c, err := a.Field(n)
			return told(c, err)
		}}
	case 5:
		return call{told("SetField", n, c), func(a asked) string { return told(a.SetField(n, c)) }}
	case 6:
		return call{told("Text", c), func(a asked) string {
			s, err := a.Text(c)
			return told(s, err)
		}}
	case 7, 8:
		return wildRead(r)
	}
	return wildTold(r)
}

func wildText(r *rand.Rand) string {
	s := make([]byte, r.Intn(60))
	for i := range s {
		s[i] = "aab: \n\n1."[r.Intn(9)]
	}
	return string(s)
}

// wildScript tells a world, and the files of the main input.
func wildScript(r *rand.Rand) (api.Script, []string) {
	s := api.Script{Stdin: wildText(r), Streams: []int{16, 16, 3}[r.Intn(3)], Clock: r.Intn(9), Chance: r.Uint64()}
	for _, name := range []string{"f", "g", "m", "n", "t"} {
		s.Files = append(s.Files, api.Content{Name: name, Data: wildText(r)})
	}
	s.Replies = []api.Reply{{Command: "f", Output: wildText(r), Status: 2}, {Command: "c", Output: wildText(r), Status: 3}}
	for range r.Intn(3) {
		s.Fails = append(s.Fails, api.Fail{Op: uint8(1 + r.Intn(4)), Name: []string{"f", "g", "m", "c", "o", "t", ""}[r.Intn(7)]})
	}
	var files []string
	for _, i := range r.Perm(5)[:r.Intn(5)] {
		files = append(files, []string{"m", "n", "-", "missing", "t"}[i])
	}
	return s, files
}

// both hands a row of calls to a host and a model, each on a world of its own, and
// holds all that can be seen of them against each other.
func both(t *testing.T, s api.Script, files []string, row []call) *model {
	t.Helper()
	h, w := hostOf(t, s, files...)
	other := worldOf(t, s)
	m := newModel(other, s, files)
	for i, c := range row {
		got, want := c.do(h), c.do(m)
		tell := func() string {
			all := told(s, files)
			for _, c := range row[:i+1] {
				all += "\n" + c.told
			}
			return all
		}
		if got != want {
			t.Fatalf("%s\n= %s; want %s", tell(), got, want)
		}
		for _, name := range specials() {
			if name == "NF" {
				continue
			}
			if got, _ := h.Get(name); got != m.specials[name] {
				t.Fatalf("%s\nthen %s = %+v; want %+v", tell(), name, got, m.specials[name])
			}
		}
		if h.Splits() != m.Splits() || w.Streams() != other.Streams() || !slices.Equal(w.Trace(), other.Trace()) {
			t.Fatalf("%s\nthen %d splits, %+v; want %d, %+v", tell(), h.Splits(), w.Trace(), m.Splits(), other.Trace())
		}
	}
	h.End()
	m.End()
	if !slices.Equal(w.Trace(), other.Trace()) {
		t.Fatalf("End: %+v; want %+v", w.Trace(), other.Trace())
	}
	return m
}

// P17.1 to P17.8, R4: long rows of calls, by a fixed seed.
func TestWildRows(t *testing.T) {
	r := seeded()
	splits, events, records := 0, 0, 0
	for range 4000 {
		s, files := wildScript(r)
		var row []call
		for range 60 {
			row = append(row, wildCall(r))
		}
		m := both(t, s, files, row)
		splits += m.Splits()
		events += len(m.w.Trace())
		records += m.records
	}
	if splits < 10000 || events < 20000 || records < 10000 {
		t.Error("little happens:", splits, events, records)
	}
}
