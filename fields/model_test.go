package fields

import (
	"fmt"
	"math/rand"
	"slices"
	"strings"
	"testing"

	"winnower/api"
	"winnower/cells"
	"winnower/shape"
)

// places are places of a text of at most 62 bytes: bit i of place i.
type places uint64

// takes tells what a tree takes from any of some places on, word by word as
// chapter 6 has it.
func takes(r api.Re, s string, from places) places {
	var to places
	switch r.Kind {
	case api.ReNone:
		return from
	case api.ReSet:
		for i := range len(s) {
			if from>>i&1 == 1 && r.Set[s[i]/64]>>(s[i]%64)&1 == 1 {
				to |= 1 << (i + 1)
			}
		}
		return to
	case api.ReBegin:
		return from & 1
	case api.ReEnd:
		return from & (1 << len(s))
	case api.ReCat:
		for _, kid := range r.Kids {
			from = takes(kid, s, from)
		}
		return from
	case api.ReAlt:
		for _, kid := range r.Kids {
			to |= takes(kid, s, from)
		}
		return to
	}
	for n := 0; n <= 62+r.Min && (r.Max < 0 || n <= r.Max); n++ {
		if n >= r.Min {
			to |= from
		}
		from = takes(r.Kids[0], s, from)
	}
	return to
}

// modelSplit tells the fields of a text, word by word as the chapter has it.
func modelSplit(s, fs string, lines bool) []string {
	switch {
	case s == "":
		return nil
	case fs == " ":
		return strings.FieldsFunc(s, func(r rune) bool { return r == 32 || r == 9 || r == 10 })
	case fs == "":
		var each []string
		for i := range len(s) {
			each = append(each, s[i:i+1])
		}
		return each
	case len(fs) == 1 && lines:
		return strings.Split(strings.ReplaceAll(s, "\n", fs), fs)
	case len(fs) == 1:
		return strings.Split(s, fs)
	}
	tree, _ := shape.Parse(fs)
	var parts []string
	begin, from := 0, 0
	for from < len(s) {
		to := takes(tree, s, 1<<from)
		if lines && s[from] == '\n' {
			to |= 1 << (from + 1)
		}
		end := len(s)
		for end > from && to>>end&1 == 0 {
			end--
		}
		if end > from {
			parts = append(parts, s[begin:from])
			begin, from = end, end
		} else {
			from++
		}
	}
	return append(parts, s[begin:])
}

// P11.1: all short texts of some bytes, by each kind of FS.
func TestAllShortTexts(t *testing.T) {
	for _, x := range []struct {
		bytes string
		most  int
		fs    []string
	}{
		{"a:\n ", 6, []string{" ", "", ":", "a", "\n", ".", "::", ":+", ":*", "a:|:", "[^a]", "^:", ":$", "^a|:$", "a*", "(a*:)?", "^|:", ":|$", "()", "::|:::", ":\n", "\n\n", "\n*", "\n:|:", "a|\n", " +", ": *", "(:|a:)\n"}},
		{"ab", 9, []string{"a", "ab", "a|ab", "ab|a", "(ab)*", "(a|ab)(b|ba)", "a*b?", "^a*", "b*$", "^a*|b*$", "a{2,3}", "(a|b)$", "^(a|b)"}},
		{"\x00\xff|a", 5, []string{"\x00", "\xff", "|", "\x00\xff", "\xff+", "\\|", "a|\x00", "[|]", "[^\xff]a"}},
		{" \t\n\v\r\xa0", 5, []string{" ", "\t", "\v", "  ", "\\t", "[[:space:]]+", "[[:blank:]]"}},
	} {
		for _, s := range texts(x.bytes, x.most) {
			for _, fs := range x.fs {
				splits(t, s, fs, false, modelSplit(s, fs, false)...)
				splits(t, s, fs, true, modelSplit(s, fs, true)...)
			}
			if t.Failed() {
				return
			}
		}
	}
}

// wildPattern tells a pattern of some bytes, which may be found with nothing.
func wildPattern(r *rand.Rand, levels int) string {
	if levels == 0 || r.Intn(4) == 0 {
		return []string{"a", "b", ":", "\n", "^", "$", "()", "[ab]", "[^a]", "."}[r.Intn(10)]
	}
	one, two := wildPattern(r, levels-1), wildPattern(r, levels-1)
	switch r.Intn(4) {
	case 0:
		return "(" + one + "|" + two + ")"
	case 1:
		return "(" + one + ")" + []string{"*", "+", "?", "{2}", "{0,2}"}[r.Intn(5)]
	case 2:
		return one + "|" + two
	}
	return one + two
}

// P11.1: patterns and texts by a fixed seed.
func TestWildPatterns(t *testing.T) {
	r := seeded()
	parted := 0
	for range 8000 {
		fs := wildPattern(r, 1+r.Intn(4)) + []string{"", "a", "()"}[r.Intn(3)]
		if len(fs) == 1 {
			continue
		}
		for range 4 {
			s := make([]byte, r.Intn(20))
			for i := range s {
				s[i] = "aab::\n"[r.Intn(6)]
			}
			want := modelSplit(string(s), fs, false)
			splits(t, string(s), fs, false, want...)
			splits(t, string(s), fs, true, modelSplit(string(s), fs, true)...)
			if len(want) > 2 {
				parted++
			}
		}
		if t.Failed() {
			return
		}
	}
	if parted < 8000 {
		t.Error("few texts are parted:", parted)
	}
}

// model is a record, word by word as the chapter has it.
type model struct {
	text                string
	lines, stale, split bool
	fields              []api.Cell
	splits              int
}

// The two by which the rows of these tests have errors.
var (
	noPattern = "(a"
	tooLong   = bracketed(mostText + 1)
)

// ready splits the record, if the number may be and it is unsplit.
func (m *model) ready(i, least int, fs string) api.Errno {
	if i < least || i > mostFields {
		return api.ErrField
	}
	if m.split {
		return api.OK
	}
	switch fs {
	case noPattern:
		return api.ErrPattern
	case tooLong:
		return api.ErrLong
	}
	m.fields = nil
	for _, s := range modelSplit(m.text, fs, m.lines) {
		m.fields = append(m.fields, cells.Look(s))
	}
	m.split = true
	m.splits++
	return api.OK
}

func (m *model) Set(text string, lines bool) api.Errno {
	m.text, m.lines, m.stale, m.split = text, lines, false, false
	return api.OK
}

func (m *model) Text(ofs, convfmt string) (string, api.Errno) {
	if !m.stale {
		return m.text, api.OK
	}
	text := ""
	for i, c := range m.fields {
		s, err := cells.String(c, convfmt)
		if err != api.OK {
			return "", err
		}
		if i > 0 {
			text += ofs
		}
		text += s
	}
	m.text, m.stale = text, false
	return text, api.OK
}

func (m *model) Field(i int, fs string) (api.Cell, api.Errno) {
	if err := m.ready(i, 1, fs); err != api.OK || i > len(m.fields) {
		return api.Cell{}, err
	}
	return m.fields[i-1], api.OK
}

func (m *model) SetField(i int, c api.Cell, fs string) api.Errno {
	if err := m.ready(i, 1, fs); err != api.OK {
		return err
	}
	for len(m.fields) < i {
		m.fields = append(m.fields, api.Cell{})
	}
	m.fields[i-1], m.stale = c, true
	return api.OK
}

func (m *model) NF(fs string) (int, api.Errno) {
	err := m.ready(1, 1, fs)
	if err != api.OK {
		return 0, err
	}
	return len(m.fields), err
}

func (m *model) SetNF(n int, fs string) api.Errno {
	if err := m.ready(n, 0, fs); err != api.OK {
		return err
	}
	for len(m.fields) < n {
		m.fields = append(m.fields, api.Cell{})
	}
	m.fields, m.stale = slices.Clone(m.fields[:n]), true
	return api.OK
}

func (m *model) Splits() int {
	return m.splits
}

// calls are what a record and a model may be asked for.
type calls interface {
	Set(text string, lines bool) api.Errno
	Text(ofs, convfmt string) (string, api.Errno)
	Field(i int, fs string) (api.Cell, api.Errno)
	SetField(i int, c api.Cell, fs string) api.Errno
	NF(fs string) (int, api.Errno)
	SetNF(n int, fs string) api.Errno
	Splits() int
}

// call is one of the calls, with what it is handed.
type call struct {
	name  string
	i     int
	text  string // a text, an fs or an ofs
	more  string // a convfmt
	lines bool
	cell  api.Cell
}

// on tells what a call answers, and how often was split behind it.
func (c call) on(x calls) string {
	told := ""
	switch c.name {
	case "Set":
		told = fmt.Sprint(x.Set(c.text, c.lines))
	case "Text":
		told = fmt.Sprint(x.Text(c.text, c.more))
	case "Field":
		told = fmt.Sprint(x.Field(c.i, c.text))
	case "SetField":
		told = fmt.Sprint(x.SetField(c.i, c.cell, c.text))
	case "NF":
		told = fmt.Sprint(x.NF(c.text))
	case "SetNF":
		told = fmt.Sprint(x.SetNF(c.i, c.text))
	}
	return told + fmt.Sprint(" splits ", x.Splits())
}

// alike says that a record tells what a model does, of its fields and its text.
func alike(t *testing.T, r *Record, m *model) {
	t.Helper()
	for _, c := range []call{{name: "Text", text: "-", more: usual}, {name: "NF", text: ":"}, {name: "Field", i: 1}, {name: "Field", i: 2}, {name: "Field", i: 3}, {name: "Field", i: 4}, {name: "SetNF", i: 4}, {name: "Text", text: "--", more: usual}} {
		if got, want := c.on(r), c.on(m); got != want {
			t.Errorf("at the end: %+v = %s; want %s", c, brief(got), brief(want))
		}
	}
}

// P11.2 to P11.4: all rows of so many of some calls do with a record what they
// do with a model.
func TestAllShortRows(t *testing.T) {
	few := []call{
		{name: "Set", text: "a:1 b"}, {name: "Set", text: "x\ny", lines: true}, {name: "Set"},
		{name: "Text", text: "-", more: usual}, {name: "Text", text: ":", more: "%.1f"}, {name: "Text", text: "-", more: wrong},
		{name: "Field", i: 2, text: ":"}, {name: "Field", i: 1, text: " "}, {name: "Field", i: 0, text: ":"},
		{name: "SetField", i: 2, text: ":", cell: num(0.25)}, {name: "SetField", i: 4, text: "", cell: str("s")}, {name: "SetField", i: 1, text: noPattern},
		{name: "NF", text: " "}, {name: "NF", text: noPattern}, {name: "SetNF", i: 1, text: ":"}, {name: "SetNF", i: 3, text: " +"}, {name: "SetNF", i: -1, text: " "},
	}
	var row [4]int
	for {
		r, m := New("1:b c", false), &model{text: "1:b c"}
		for _, i := range row {
			if got, want := few[i].on(r), few[i].on(m); got != want {
				t.Errorf("%+v = %s; want %s", few[i], got, want)
			}
		}
		alike(t, r, m)
		if t.Failed() {
			t.Fatalf("of the row %v", row)
		}
		at := 0
		for at < len(row) && row[at] == len(few)-1 {
			row[at] = 0
			at++
		}
		if at == len(row) {
			return
		}
		row[at]++
	}
}

// one tells one of some.
func one[T any](r *rand.Rand, some ...T) T {
	return some[r.Intn(len(some))]
}

func wildCall(r *rand.Rand) call {
	fs := one(r, " ", "", ":", "a", "\n", " +|:", "a*", noPattern, tooLong)
	switch n := r.Intn(20); {
	case n < 3:
		return call{name: "Set", text: one(r, "", "a", " 1 2\n", "a:b:c", "a\nb\n", "0x1:-2", strings.Repeat("ab :", 12)), lines: r.Intn(2) == 0}
	case n < 7:
		return call{name: "Text", text: one(r, "", " ", ":", "-+-"), more: one(r, usual, "%.2f", "<%d>", wrong)}
	case n < 11:
		return call{name: "Field", i: one(r, 1, 2, 3, 4, 9, 60, mostFields, 0, -1, mostFields+1), text: fs}
	case n < 15:
		return call{name: "SetField", i: one(r, 1, 2, 3, 4, 9, 60, 0, -1, mostFields+1), text: fs, cell: one(r, someCells()...)}
	case n < 17:
		return call{name: "NF", text: fs}
	}
	return call{name: "SetNF", i: one(r, 0, 1, 2, 3, 4, 9, 60, -1, mostFields+1), text: fs}
}

// P11.2 to P11.4: long rows of calls, by a fixed seed.
func TestLongRows(t *testing.T) {
	r := seeded()
	for range 100 {
		record, m := New("a b", true), &model{text: "a b", lines: true}
		for n := range 300 {
			c := wildCall(r)
			if got, want := c.on(record), c.on(m); got != want {
				t.Fatalf("call %d: %s %d %s = %s; want %s", n, c.name, c.i, brief(c.text), brief(got), brief(want))
			}
			if n%10 == 0 {
				for i := range 62 {
					look := call{name: "Field", i: i, text: ":"}
					if got, want := look.on(record), look.on(m); got != want {
						t.Fatalf("behind call %d, %s: field %d is %s; want %s", n, c.name, i, got, want)
					}
				}
			}
		}
	}
}
