package fields

import (
	"math"
	"math/rand"
	"slices"
	"strconv"
	"strings"
	"testing"
	"unsafe"

	"winnower/api"
)

// The limits, as the chapters have them.
const (
	mostFields = 10000
	mostText   = 1048576
	mostSize   = 20000
)

// usual is a convfmt that may be, wrong one that may not.
const (
	usual = "%.6g"
	wrong = "%z"
)

func seeded() *rand.Rand {
	return rand.New(rand.NewSource(11))
}

// The cells, laid part by part.

func num(f float64) api.Cell {
	return api.Cell{Kind: api.Num, N: math.Float64bits(f)}
}

func str(s string) api.Cell {
	return api.Cell{Kind: api.Str, S: s}
}

func strNum(s string, f float64) api.Cell {
	return api.Cell{Kind: api.StrNum, N: math.Float64bits(f), S: s}
}

// strs tells cells of texts that don't look like numbers.
func strs(texts ...string) []api.Cell {
	var all []api.Cell
	for _, s := range texts {
		all = append(all, str(s))
	}
	return all
}

// someCells are cells of all kinds, right ones and others.
func someCells() []api.Cell {
	return []api.Cell{
		{}, num(0), num(-0.5), num(1e300), {Kind: api.Num, N: api.NaN}, str(""), str("x"), str("12"), str("a b\nc"), strNum(" 12\n", 12), strNum("0x", 0),
		// Not right: more than the kind has, a number in another form, kinds
		// that there are not.
		{S: "x"}, {N: 7}, {Kind: api.Num, N: 0xfff0000000000001}, {Kind: api.Num, N: 1, S: "x"}, {Kind: api.Str, N: 7, S: "x"}, {Kind: api.StrNum, S: "x"}, {Kind: 4, S: "x"}, {Kind: 255, N: 1<<64 - 1, S: "\xff"},
	}
}

// brief keeps what a failing test tells short.
func brief(s string) string {
	if len(s) < 90 {
		return strconv.Quote(s)
	}
	return strconv.Quote(s[:40]) + ".." + strconv.Quote(s[len(s)-40:]) + " of " + strconv.Itoa(len(s)) + " bytes"
}

// briefs tells the first ones of some texts, and how many they are.
func briefs(l []string) string {
	var told []string
	for _, s := range l[:min(len(l), 20)] {
		told = append(told, brief(s))
	}
	return strconv.Itoa(len(l)) + ": " + strings.Join(told, " ")
}

// splits says what the fields of a text are.
func splits(t *testing.T, s, fs string, lines bool, want ...string) {
	t.Helper()
	if l, err := Split(s, fs, lines); !slices.Equal(l, want) || err != api.OK {
		t.Errorf("Split(%s, %s, %v) = %s, %d; want %s", brief(s), brief(fs), lines, briefs(l), err, briefs(want))
	}
}

// splitsBoth says what they are with lines and without.
func splitsBoth(t *testing.T, s, fs string, want ...string) {
	t.Helper()
	splits(t, s, fs, false, want...)
	splits(t, s, fs, true, want...)
}

// splitsNot says that a text isn't split, for an error, and that a record of it
// isn't, either.
func splitsNot(t *testing.T, s, fs string, lines bool, want api.Errno) {
	t.Helper()
	if l, err := Split(s, fs, lines); l != nil || err != want {
		t.Errorf("Split(%s, %s, %v) = %s, %d; want error %d", brief(s), brief(fs), lines, briefs(l), err, want)
	}
	r := New(s, lines)
	asksFail(t, r, fs, 1, want)
	wasSplit(t, r, 0)
	hasText(t, r, ",", usual, s)
}

func hasText(t *testing.T, r *Record, ofs, convfmt, want string) {
	t.Helper()
	if s, err := r.Text(ofs, convfmt); s != want || err != api.OK {
		t.Errorf("Text(%s, %s) = %s, %d; want %s", brief(ofs), brief(convfmt), brief(s), err, brief(want))
	}
}

func hasNoText(t *testing.T, r *Record, ofs, convfmt string, want api.Errno) {
	t.Helper()
	if s, err := r.Text(ofs, convfmt); s != "" || err != want {
		t.Errorf("Text(%s, %s) = %s, %d; want error %d", brief(ofs), brief(convfmt), brief(s), err, want)
	}
}

func isField(t *testing.T, r *Record, i int, fs string, want api.Cell) {
	t.Helper()
	if c, err := r.Field(i, fs); c != want || err != api.OK {
		t.Errorf("Field(%d, %s) = %+v, %d; want %+v", i, brief(fs), c, err, want)
	}
}

// hasFields says what all fields are, and that there is none behind them.
func hasFields(t *testing.T, r *Record, fs string, want ...api.Cell) {
	t.Helper()
	if n, err := r.NF(fs); n != len(want) || err != api.OK {
		t.Errorf("NF(%s) = %d, %d; want %d", brief(fs), n, err, len(want))
	}
	for i, c := range want {
		isField(t, r, i+1, fs, c)
	}
	if len(want) < mostFields {
		isField(t, r, len(want)+1, fs, api.Cell{})
		isField(t, r, mostFields, fs, api.Cell{})
	}
}

func sets(t *testing.T, r *Record, i int, c api.Cell, fs string) {
	t.Helper()
	if err := r.SetField(i, c, fs); err != api.OK {
		t.Errorf("SetField(%d, %+v, %s) = %d", i, c, brief(fs), err)
	}
}

func setsNF(t *testing.T, r *Record, n int, fs string) {
	t.Helper()
	if err := r.SetNF(n, fs); err != api.OK {
		t.Errorf("SetNF(%d, %s) = %d", n, brief(fs), err)
	}
}

func setsText(t *testing.T, r *Record, text string, lines bool) {
	t.Helper()
	if err := r.Set(text, lines); err != api.OK {
		t.Errorf("Set(%s, %v) = %d", brief(text), lines, err)
	}
}

func wasSplit(t *testing.T, r *Record, want int) {
	t.Helper()
	if n := r.Splits(); n != want {
		t.Errorf("Splits() = %d; want %d", n, want)
	}
}

// asksFail says that whatever asks for a field by its number is an error.
func asksFail(t *testing.T, r *Record, fs string, i int, want api.Errno) {
	t.Helper()
	if c, err := r.Field(i, fs); c != (api.Cell{}) || err != want {
		t.Errorf("Field(%d, %s) = %+v, %d; want error %d", i, brief(fs), c, err, want)
	}
	if err := r.SetField(i, str("x"), fs); err != want {
		t.Errorf("SetField(%d, x, %s) = %d; want error %d", i, brief(fs), err, want)
	}
	// No fields at all may be asked for.
	if i != 0 {
		if err := r.SetNF(i, fs); err != want {
			t.Errorf("SetNF(%d, %s) = %d; want error %d", i, brief(fs), err, want)
		}
	}
	if want == api.ErrField {
		return
	}
	if n, err := r.NF(fs); n != 0 || err != want {
		t.Errorf("NF(%s) = %d, %d; want error %d", brief(fs), n, err, want)
	}
}

// within says whether a text lies in the memory of another one.
func within(part, whole string) bool {
	if part == "" || whole == "" {
		return false
	}
	at, from := uintptr(unsafe.Pointer(unsafe.StringData(part))), uintptr(unsafe.Pointer(unsafe.StringData(whole)))
	return at >= from && at < from+uintptr(len(whole))
}

// texts tells all texts of some bytes, up to so many of them.
func texts(bytes string, most int) []string {
	every, last := []string{""}, []string{""}
	for range most {
		var longer []string
		for _, s := range last {
			for i := range len(bytes) {
				longer = append(longer, s+bytes[i:i+1])
			}
		}
		last = longer
		every = append(every, last...)
	}
	return every
}

// sized tells a pattern whose tree has a size of 19970 or more.
func sized(size int) string {
	return strings.Repeat("a{255}", 78) + strings.Repeat("a", size-19969)
}

// bracketed tells a pattern of so many bytes, which is the set of a.
func bracketed(length int) string {
	return "[" + strings.Repeat("a", length-2) + "]"
}
