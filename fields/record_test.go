package fields

import (
	"math"
	"slices"
	"strings"
	"testing"

	"winnower/api"
)

// badNumbers are numbers that no field has.
var badNumbers = []int{0, -1, -2, mostFields + 1, mostFields + 2, math.MinInt, math.MaxInt, -1 << 32, 1<<32 + 1}

// P11.2: a record has its text, and is not split by being asked for it.
func TestNewAndSet(t *testing.T) {
	for _, text := range []string{"", "a", "a b", " a\nb ", "\x00\xff", strings.Repeat("a ", 2*mostFields)} {
		for _, lines := range []bool{false, true} {
			r := New(text, lines)
			hasText(t, r, "-", usual, text)
			hasText(t, r, "", wrong, text)
			wasSplit(t, r, 0)
			setsText(t, r, text+"x", !lines)
			hasText(t, r, "-", usual, text+"x")
			setsText(t, r, "", lines)
			hasText(t, r, "-", usual, "")
			wasSplit(t, r, 0)
		}
	}
}

// P11.2: whether lines part fields is what was said last.
func TestLinesOfARecord(t *testing.T) {
	r := New("a:b\nc", false)
	hasFields(t, r, ":", strs("a", "b\nc")...)
	setsText(t, r, "a:b\nc", true)
	hasFields(t, r, ":", strs("a", "b", "c")...)
	setsText(t, r, "a:b\nc", false)
	hasFields(t, r, ":", strs("a", "b\nc")...)
	wasSplit(t, r, 3)
	r = New("a::b\nc", true)
	hasFields(t, r, "::", strs("a", "b", "c")...)
	hasFields(t, New("a b\nc", false), " ", strs("a", "b", "c")...)
}

// P11.3: fields are what cells.Look tells of them.
func TestLooks(t *testing.T) {
	r := New("12,-0.5e1, 7 ,x,,0x1F,.,1e,+3\n,12a", false)
	want := []api.Cell{strNum("12", 12), strNum("-0.5e1", -5), strNum(" 7 ", 7), str("x"), str(""), str("0x1F"), str("."), str("1e"), strNum("+3\n", 3), str("12a")}
	hasFields(t, r, ",", want...)
	hasText(t, r, ";", usual, "12,-0.5e1, 7 ,x,,0x1F,.,1e,+3\n,12a")
	// They keep their bytes: their texts are not those of their numbers.
	sets(t, r, 4, num(0.125), ",")
	hasText(t, r, ";", "%.1f", "12;-0.5e1; 7 ;0.1;;0x1F;.;1e;+3\n;12a")
}

// P11.3: a field that is asked for, ahead of Text and behind it.
func TestField(t *testing.T) {
	for _, text := range []string{"", "a b"} {
		r := New(text, false)
		hasText(t, r, "-", usual, text)
		for i := range 5 {
			want := api.Cell{}
			if i < 2 && text != "" {
				want = str(text[2*i : 2*i+1])
			}
			isField(t, r, i+1, " ", want)
			hasText(t, r, "-", usual, text)
		}
		isField(t, r, mostFields, " ", api.Cell{})
		hasText(t, r, "-", usual, text)
		wasSplit(t, r, 1)
	}
}

// P11.3, P11.4: it is split once, by the first fs that it is asked by, also if
// the second one is none.
func TestOtherFS(t *testing.T) {
	for _, first := range []func(r *Record){
		func(r *Record) { isField(t, r, 1, ":", str("a b")) },
		func(r *Record) { isField(t, r, 9, ":", api.Cell{}) },
		func(r *Record) { hasFields(t, r, ":", strs("a b", "c")...) },
		func(r *Record) { sets(t, r, 2, str("c"), ":") },
		func(r *Record) { setsNF(t, r, 2, ":") },
	} {
		r := New("a b:c", false)
		first(r)
		wasSplit(t, r, 1)
		for _, fs := range []string{" ", "", ":", noPattern, tooLong, ".+"} {
			hasFields(t, r, fs, strs("a b", "c")...)
			asksFail(t, r, fs, 0, api.ErrField)
		}
		hasText(t, r, ":", usual, "a b:c")
		hasFields(t, r, " ", strs("a b", "c")...)
		sets(t, r, 1, str("x y"), noPattern)
		setsNF(t, r, 2, noPattern)
		hasText(t, r, " ", usual, "x y c")
		hasFields(t, r, " ", strs("x y", "c")...)
		wasSplit(t, r, 1)
	}
}

// P11.4: a record of no bytes is split once, too.
func TestSplitOfNoBytes(t *testing.T) {
	r := New("", true)
	wasSplit(t, r, 0)
	for range 3 {
		hasFields(t, r, ":")
		wasSplit(t, r, 1)
	}
	setsText(t, r, "", false)
	wasSplit(t, r, 1)
	setsNF(t, r, 0, " ")
	wasSplit(t, r, 2)
	hasText(t, r, "-", usual, "")
	hasFields(t, r, " ")
	wasSplit(t, r, 2)
}

// P11.3: SetField at each place of a record that nothing was asked of.
func TestSetField(t *testing.T) {
	for i, want := range []string{1: "X-b-c", 2: "a-X-c", 3: "a-b-X", 4: "a-b-c-X", 5: "a-b-c--X", 9: "a-b-c------X"} {
		if want == "" {
			continue
		}
		r := New("a b  c", false)
		sets(t, r, i, str("X"), " ")
		wasSplit(t, r, 1)
		isField(t, r, i, " ", str("X"))
		for between := 4; between < i; between++ {
			isField(t, r, between, " ", api.Cell{})
		}
		if n, err := r.NF(" "); n != max(i, 3) || err != api.OK {
			t.Errorf("NF behind SetField(%d) = %d, %d", i, n, err)
		}
		hasText(t, r, "-", usual, want)
		wasSplit(t, r, 1)
	}
	r := New("a b  c", false)
	sets(t, r, mostFields, str("X"), " ")
	hasText(t, r, "-", usual, "a-b-c"+strings.Repeat("-", mostFields-3)+"X")
	asksFail(t, r, " ", mostFields+1, api.ErrField)
	sets(t, r, 2, api.Cell{}, " ")
	hasText(t, r, "-", usual, "a--c"+strings.Repeat("-", mostFields-3)+"X")
	r = New("", false)
	sets(t, r, 1, str("X"), " ")
	hasText(t, r, "-", usual, "X")
	// A field that is what it was makes a record stale, too.
	r = New("a b  c", false)
	sets(t, r, 1, str("a"), " ")
	hasText(t, r, "-", usual, "a-b-c")
	hasFields(t, r, " ", strs("a", "b", "c")...)
}

// P11.3: a cell is a field as it is, be it right or not.
func TestCellsThatAreSet(t *testing.T) {
	for _, c := range someCells() {
		for i := 1; i < 5; i++ {
			r := New("a:b", false)
			sets(t, r, i, c, ":")
			isField(t, r, i, ":", c)
		}
	}
	for _, x := range []struct {
		c    api.Cell
		want string
	}{
		{api.Cell{}, ""}, {num(0.25), "0.2"}, {num(100), "100"}, {api.Cell{Kind: api.Num, N: api.NaN}, "nan"}, {str("12"), "12"}, {str(""), ""}, {strNum(" 12\n", 12), " 12\n"},
		{api.Cell{S: "x"}, ""}, {api.Cell{Kind: api.Num, N: math.Float64bits(7), S: "x"}, "7"}, {api.Cell{Kind: api.Str, N: 7, S: "x"}, "x"}, {api.Cell{Kind: api.StrNum, S: "x"}, "x"}, {api.Cell{Kind: 4, S: "x"}, ""}, {api.Cell{Kind: 255, N: 1, S: "x"}, ""},
	} {
		r := New("a:b", false)
		sets(t, r, 1, x.c, ":")
		hasText(t, r, "-", "%.1f", x.want+"-b")
		hasFields(t, r, ":", x.c, str("b"))
	}
}

// P11.3: SetNF to fewer, to as many, to more.
func TestSetNF(t *testing.T) {
	all := strs("a", "b", "c")
	for n, want := range []string{"", "a", "a-b", "a-b-c", "a-b-c-", "a-b-c--"} {
		r := New("a b  c", false)
		setsNF(t, r, n, " ")
		wasSplit(t, r, 1)
		hasFields(t, r, " ", append(slices.Clone(all), api.Cell{}, api.Cell{})[:n]...)
		hasText(t, r, "-", usual, want)
		// What is gone doesn't come back.
		setsNF(t, r, 5, " ")
		hasFields(t, r, " ", append(slices.Clone(all[:min(n, 3)]), make([]api.Cell, 5-min(n, 3))...)...)
		wasSplit(t, r, 1)
	}
	r := New("a b  c", false)
	setsNF(t, r, mostFields, " ")
	hasFields(t, r, " ", append(slices.Clone(all), make([]api.Cell, mostFields-3)...)...)
	hasText(t, r, "-", usual, "a-b-c"+strings.Repeat("-", mostFields-3))
	asksFail(t, r, " ", mostFields+1, api.ErrField)
	setsNF(t, r, 0, " ")
	hasFields(t, r, " ")
	hasText(t, r, "-", usual, "")
	sets(t, r, 2, str("X"), " ")
	hasFields(t, r, " ", api.Cell{}, str("X"))
	hasText(t, r, "-", usual, "-X")
}

// P11.3: a number that may not be counts ahead of what Split would tell, and
// nothing is split.
func TestBadNumbers(t *testing.T) {
	for _, fs := range []string{" ", "", ":", "::", noPattern, tooLong} {
		r := New("a b", false)
		for _, i := range badNumbers {
			asksFail(t, r, fs, i, api.ErrField)
		}
		wasSplit(t, r, 0)
		hasText(t, r, "-", usual, "a b")
		hasFields(t, r, " ", strs("a", "b")...)
		for _, i := range badNumbers {
			asksFail(t, r, fs, i, api.ErrField)
		}
		// It is not stale by that, either.
		hasText(t, r, "-", usual, "a b")
		wasSplit(t, r, 1)
	}
}

// P11.3, R2: behind an error of Split a record is unsplit, as it was.
func TestSplitFails(t *testing.T) {
	many := strings.Repeat("a:", mostFields)
	for _, x := range []struct {
		fs   string
		want api.Errno
	}{{noPattern, api.ErrPattern}, {tooLong, api.ErrLong}, {":", api.ErrFull}, {"", api.ErrFull}} {
		r := New("a b", false)
		hasFields(t, r, " ", strs("a", "b")...)
		setsText(t, r, many, true)
		for range 2 {
			for _, i := range []int{1, 2, mostFields} {
				asksFail(t, r, x.fs, i, x.want)
				wasSplit(t, r, 1)
			}
			if err := r.SetNF(0, x.fs); err != x.want {
				t.Errorf("SetNF(0) = %d; want error %d", err, x.want)
			}
			hasText(t, r, "-", usual, many)
			hasText(t, r, "-", wrong, many)
		}
		hasFields(t, r, " ", str(many))
		wasSplit(t, r, 2)
		hasText(t, r, "-", usual, many)
	}
}

// P11.2: a stale record's text is made once, and is the record's from then on.
func TestStaleText(t *testing.T) {
	r := New("a b c", false)
	sets(t, r, 2, num(0.25), " ")
	hasText(t, r, "-", "%.1f", "a-0.2-c")
	hasText(t, r, "+", "%.3f", "a-0.2-c")
	hasText(t, r, "-", wrong, "a-0.2-c")
	// Its fields are still those that were set, and are not split again.
	hasFields(t, r, "-", str("a"), num(0.25), str("c"))
	setsNF(t, r, 3, "-")
	hasText(t, r, "+", "%.3f", "a+0.250+c")
	sets(t, r, 4, strNum("7", 7), "-")
	hasFields(t, r, "-", str("a"), num(0.25), str("c"), strNum("7", 7))
	hasText(t, r, "", "%.0e", "a2e-01c7")
	hasFields(t, r, "-", str("a"), num(0.25), str("c"), strNum("7", 7))
	wasSplit(t, r, 1)
	// Whole numbers go without convfmt.
	setsNF(t, r, 0, "")
	sets(t, r, 1, num(1e6), "")
	sets(t, r, 2, num(0), "")
	hasText(t, r, "\x00\xff", wrong, "1000000\x00\xff0")
}

// P11.2: the first field that has no text tells the error, and a stale record
// stays stale.
func TestTextFails(t *testing.T) {
	for at := 1; at <= 3; at++ {
		r := New("a b c", false)
		sets(t, r, at, num(0.25), " ")
		for range 2 {
			hasNoText(t, r, "-", wrong, api.ErrFormat)
			hasNoText(t, r, "-", "%4097d", api.ErrFormat)
			hasNoText(t, r, "-", strings.Repeat("x", mostText)+"%d", api.ErrLong)
		}
		want := strs("a", "b", "c")
		want[at-1] = num(0.25)
		hasFields(t, r, " ", want...)
		wasSplit(t, r, 1)
		texts := []string{"a", "b", "c"}
		texts[at-1] = "0.25"
		hasText(t, r, "+", usual, strings.Join(texts, "+"))
		hasText(t, r, "-", wrong, strings.Join(texts, "+"))
	}
	// A text so long that one number is too long with it, and the other one
	// isn't: then what follows is no format.
	long := strings.Repeat("x", mostText-4) + "%g%z"
	r := New("", false)
	sets(t, r, 1, num(0.5), "")
	sets(t, r, 3, num(0.123), "")
	hasNoText(t, r, "-", long, api.ErrFormat)
	sets(t, r, 1, num(0.123), "")
	sets(t, r, 3, num(0.5), "")
	hasNoText(t, r, "-", long, api.ErrLong)
	sets(t, r, 1, api.Cell{}, "")
	hasNoText(t, r, "-", long, api.ErrFormat)
	setsNF(t, r, 2, "")
	hasText(t, r, "-", long, "-")
}

// P11.2: Set behind each state that a record may be in.
func TestSetBehind(t *testing.T) {
	for name, ahead := range map[string]func(r *Record){
		"new":             func(r *Record) {},
		"asked":           func(r *Record) { hasText(t, r, "-", usual, "a b c") },
		"split":           func(r *Record) { hasFields(t, r, " ", strs("a", "b", "c")...) },
		"not split":       func(r *Record) { asksFail(t, r, noPattern, 1, api.ErrPattern) },
		"a bad number":    func(r *Record) { asksFail(t, r, " ", 0, api.ErrField) },
		"stale":           func(r *Record) { sets(t, r, 2, num(0.5), " ") },
		"more fields":     func(r *Record) { setsNF(t, r, 900, " ") },
		"none":            func(r *Record) { setsNF(t, r, 0, " ") },
		"stale, and made": func(r *Record) { sets(t, r, 5, str("x"), " "); hasText(t, r, ":", usual, "a:b:c::x") },
		"stale, not made": func(r *Record) { sets(t, r, 5, num(0.5), " "); hasNoText(t, r, ":", wrong, api.ErrFormat) },
	} {
		for _, lines := range []bool{false, true} {
			r := New("a b c", !lines)
			ahead(r)
			before := r.Splits()
			setsText(t, r, "x:7\n", lines)
			wasSplit(t, r, before)
			hasText(t, r, "-", wrong, "x:7\n")
			wasSplit(t, r, before)
			if lines {
				hasFields(t, r, ":", str("x"), strNum("7", 7), str(""))
			} else {
				hasFields(t, r, ":", str("x"), strNum("7\n", 7))
			}
			hasText(t, r, "-", usual, "x:7\n")
			wasSplit(t, r, before+1)
			setsText(t, r, "", lines)
			hasFields(t, r, ":")
			hasText(t, r, "-", usual, "")
			wasSplit(t, r, before+2)
		}
		if t.Failed() {
			t.Fatalf("behind a record that is %s", name)
		}
	}
}

// P11.4: none is split whose fields nobody asks, and each once at most.
func TestLazily(t *testing.T) {
	random := seeded()
	r := New("a b", false)
	want := 0
	for range 2000 {
		setsText(t, r, one(random, "", "a", "a b:c\nd", strings.Repeat(" ", 50)), random.Intn(2) == 0)
		asked := 0
		for range random.Intn(6) {
			fs := one(random, " ", "", ":", "[a-c]+")
			switch random.Intn(6) {
			case 0:
				r.Field(1+random.Intn(5), fs)
			case 1:
				r.SetField(1+random.Intn(5), num(0.5), fs)
			case 2:
				r.NF(fs)
			case 3:
				r.SetNF(random.Intn(5), fs)
			default:
				r.Text(fs, one(random, usual, wrong))
				r.Field(0, fs)
				wasSplit(t, r, want+asked)
				continue
			}
			asked = 1
			wasSplit(t, r, want+asked)
		}
		want += asked
	}
}

// P11.4: a stale record's text, split by a byte that is OFS and in no field, has
// these fields.
func TestStaleTextSplits(t *testing.T) {
	random := seeded()
	for _, ofs := range []string{"-", ":", "\x00", "\xff", "\t", "\n", ".", "|"} {
		for range 300 {
			r, n := New("a b", false), random.Intn(6)
			setsNF(t, r, n, " ")
			var want []string
			for i := range n {
				field := one(random, "x", " y ", "12", "é", "0x", "a b", "*")
				// One field without bytes makes a text without bytes, which
				// has none.
				if n > 1 {
					field = one(random, field, "")
				}
				sets(t, r, i+1, str(field), " ")
				want = append(want, field)
			}
			text, err := r.Text(ofs, usual)
			if err != api.OK {
				t.Fatalf("Text = %d", err)
			}
			splits(t, text, ofs, false, want...)
			setsText(t, r, text, false)
			if got, err := r.NF(ofs); got != n || err != api.OK {
				t.Errorf("NF of %q = %d, %d; want %d", text, got, err, n)
			}
		}
	}
}
