package octets

import (
	"math"
	"math/big"
	"strings"
	"testing"
	"unsafe"
)

// The bytes of each class, written out: the chapter names them by number.
const (
	blanks = "\x20\x09"
	spaces = "\x20\x09\x0a\x0b\x0c\x0d"
	digits = "0123456789"
	smalls = "abcdefghijklmnopqrstuvwxyz"
	greats = "ABCDEFGHIJKLMNOPQRSTUVWXYZ"
)

// ends are places and counts as an int can have them, the odd ones above all.
var ends = []int{
	math.MinInt, math.MinInt + 1, math.MinInt + 2, math.MinInt + 5, math.MinInt + 6, math.MinInt / 2,
	math.MinInt32, -300, -7, -6, -5, -4, -3, -2, -1, 0, 1, 2, 3, 4, 5, 6, 7, 8, 300, 1 << 20,
	math.MaxInt32, math.MaxInt / 2, math.MaxInt/2 + 1, math.MaxInt - 6, math.MaxInt - 5, math.MaxInt - 1, math.MaxInt,
}

func allBytes() string {
	b := make([]byte, 256)
	for i := range b {
		b[i] = byte(i)
	}
	return string(b)
}

// oddTexts are texts in which no byte may be taken for a special one.
func oddTexts() []string {
	return []string{
		"", "\x00", "\xff", "a\x00B", "\x00\x00\x00", "hello", "Grüße, ДОМ", "\xc3", "\xc3\x28\xe2\x82",
		"@AZ[`az{", "\u2028\u212a\u017f\u0130", strings.Repeat("Ab\xff", 1000), allBytes(),
	}
}

// words are all texts of at most most bytes of letters.
func words(letters string, most int) []string {
	all := []string{""}
	for from := 0; most > 0; most-- {
		to := len(all)
		for _, w := range all[from:to] {
			for i := range len(letters) {
				all = append(all, w+letters[i:i+1])
			}
		}
		from = to
	}
	return all
}

// P1.1, all bytes: what is in a class, and nothing else.
func TestClasses(t *testing.T) {
	for _, c := range []struct {
		name    string
		tell    func(byte) bool
		members string
	}{
		{"Blank", Blank, blanks},
		{"Space", Space, spaces},
		{"Digit", Digit, digits},
		{"Letter", Letter, smalls + greats},
	} {
		for i := range 256 {
			want := strings.IndexByte(c.members, byte(i)) >= 0
			if got := c.tell(byte(i)); got != want {
				t.Errorf("%s(%d) = %v, want %v", c.name, i, got, want)
			}
		}
	}
}

// P1.1, the numbers that the chapter names, and those beside them.
func TestClassEdges(t *testing.T) {
	for _, c := range []struct {
		name    string
		tell    func(byte) bool
		in, out []byte
	}{
		{"Blank", Blank, []byte{9, 32}, []byte{0, 8, 10, 11, 13, 31, 33, 160, 255}},
		{"Space", Space, []byte{9, 10, 11, 12, 13, 32}, []byte{0, 8, 14, 31, 33, 133, 160, 255}},
		{"Digit", Digit, []byte{48, 57}, []byte{0, 47, 58, 178, 255}},
		{"Letter", Letter, []byte{65, 90, 97, 122}, []byte{0, 64, 91, 96, 123, 170, 193, 225, 255}},
	} {
		for _, b := range c.in {
			if !c.tell(b) {
				t.Errorf("%s(%d) = false", c.name, b)
			}
		}
		for _, b := range c.out {
			if c.tell(b) {
				t.Errorf("%s(%d) = true", c.name, b)
			}
		}
	}
}

// P1.1: each byte alone and among others.
func TestTurnedBytes(t *testing.T) {
	for i := range 256 {
		b := byte(i)
		low, up := b, b
		if b >= 65 && b <= 90 {
			low = b + 32
		}
		if b >= 97 && b <= 122 {
			up = b - 32
		}
		one := string([]byte{b})
		if got := Lower(one); got != string([]byte{low}) {
			t.Errorf("Lower of byte %d: %q", i, got)
		}
		if got := Upper(one); got != string([]byte{up}) {
			t.Errorf("Upper of byte %d: %q", i, got)
		}
		if got := Lower("X" + one + "\xfe"); got != "x"+string([]byte{low})+"\xfe" {
			t.Errorf("Lower of byte %d among others: %q", i, got)
		}
		if got := Upper("x" + one + "\xfe"); got != "X"+string([]byte{up})+"\xfe" {
			t.Errorf("Upper of byte %d among others: %q", i, got)
		}
	}
}

// P1.1: texts, and bytes of other alphabets, which stay.
func TestTurnedTexts(t *testing.T) {
	for _, x := range []struct{ s, low, up string }{
		{"", "", ""},
		{"aB[1", "ab[1", "AB[1"},
		{"aB{1", "ab{1", "AB{1"},
		{"@AZ[`az{", "@az[`az{", "@AZ[`AZ{"},
		{"Grüße", "grüße", "GRüßE"},
		{"ДОМ \u212a\u0130", "ДОМ \u212a\u0130", "ДОМ \u212a\u0130"},
		{"\xffA\x00z\xc3", "\xffa\x00z\xc3", "\xffA\x00Z\xc3"},
		{greats + smalls, smalls + smalls, greats + greats},
		{strings.Repeat("Qq9", 50000), strings.Repeat("qq9", 50000), strings.Repeat("QQ9", 50000)},
	} {
		if got := Lower(x.s); got != x.low {
			t.Errorf("Lower(%.40q) = %.40q", x.s, got)
		}
		if got := Upper(x.s); got != x.up {
			t.Errorf("Upper(%.40q) = %.40q", x.s, got)
		}
	}
}

// P1.2: places from 1 on; none of what is not there, and of no bytes.
func TestIndex(t *testing.T) {
	for _, x := range []struct {
		s, t string
		want int
	}{
		{"banana", "an", 2}, {"banana", "x", 0}, {"a", "", 0}, {"", "", 0}, {"", "a", 0},
		{"banana", "banana", 1}, {"banana", "bananas", 0}, {"banana", "b", 1}, {"banana", "a", 2},
		{"banana", "nana", 3}, {"banana", "ana", 2}, {"banana", "nan\x00", 0}, {"aab", "ab", 2},
		{"A", "a", 0}, {"a.c", ".", 2}, {"\x00\x00\x01", "\x00\x01", 2}, {"\xc3\xa9", "\xa9", 2},
		{"é", "\xc3", 1}, {"\xff\xfe", "\xfe", 2}, {"\xef\xbf\xbd", "\xff", 0}, {"\xff", "\xef\xbf\xbd", 0},
		{allBytes(), "\xff", 256}, {allBytes(), "\xfe\xff", 255}, {allBytes(), "\x00", 1},
	} {
		if got := Index(x.s, x.t); got != x.want {
			t.Errorf("Index(%q, %q) = %d, want %d", x.s, x.t, got, x.want)
		}
	}
}

// P1.2: the least place, of all short texts in all others.
func TestIndexLeast(t *testing.T) {
	least := func(s, t string) int {
		for at := 0; t != "" && at+len(t) <= len(s); at++ {
			if s[at:at+len(t)] == t {
				return at + 1
			}
		}
		return 0
	}
	parts := words("a\xff\x00", 4)
	for _, s := range words("a\xff\x00", 6) {
		for _, p := range parts {
			if got, want := Index(s, p), least(s, p); got != want {
				t.Fatalf("Index(%q, %q) = %d, want %d", s, p, got, want)
			}
		}
	}
}

// P1.2, R1: a search among many that are nearly right ends soon.
func TestIndexLong(t *testing.T) {
	s := strings.Repeat("a", 1<<20)
	part := strings.Repeat("a", 1<<19) + "b"
	if got := Index(s, part); got != 0 {
		t.Errorf("Index of what is not there = %d", got)
	}
	if got := Index(s+"b", part); got != 1<<19+1 {
		t.Errorf("Index at the end = %d", got)
	}
}

// P1.2: the chapter's examples, and places beside the ends.
func TestCut(t *testing.T) {
	for _, x := range []struct {
		s       string
		from, n int
		want    string
	}{
		{"hello", 2, 3, "ell"}, {"hello", 0, 3, "he"}, {"hello", -1, 3, "h"}, {"hello", 4, 100, "lo"},
		{"hello", 9, 1, ""}, {"hello", 1, -1, ""}, {"hello", 1, 0, ""}, {"hello", 1, 1, "h"},
		{"hello", 1, 5, "hello"}, {"hello", 1, 6, "hello"}, {"hello", 5, 1, "o"}, {"hello", 5, 2, "o"},
		{"hello", 6, 1, ""}, {"hello", 0, 1, ""}, {"hello", 0, 2, "h"}, {"hello", -2, 3, ""}, {"hello", -3, 3, ""},
		{"hello", 0, 6, "hello"}, {"hello", 0, 7, "hello"}, {"", 1, 1, ""}, {"", 0, 5, ""},
		{"\x00\xff\xc3\xa9", 2, 2, "\xff\xc3"}, {"é", 2, 1, "\xa9"},
		{"hello", 2, math.MaxInt, "ello"}, {"hello", 0, math.MaxInt, "hello"}, {"hello", -3, math.MaxInt, "hello"},
		{"hello", math.MinInt, math.MaxInt, ""}, {"hello", math.MinInt + 4, math.MaxInt, "he"},
		{"hello", math.MinInt + 20, math.MaxInt, "hello"}, {"hello", math.MaxInt, math.MaxInt, ""},
		{"hello", math.MaxInt, 1, ""}, {"hello", math.MinInt, math.MinInt, ""}, {"hello", 1, math.MinInt, ""},
		{"hello", math.MaxInt, math.MinInt, ""}, {"hello", -1, -1, ""}, {"hello", 7, -3, ""},
	} {
		if got := Cut(x.s, x.from, x.n); got != x.want {
			t.Errorf("Cut(%q, %d, %d) = %q, want %q", x.s, x.from, x.n, got, x.want)
		}
	}
}

// cutByPlaces goes through the places, with numbers that have no end.
func cutByPlaces(s string, from, n int) string {
	first := big.NewInt(int64(from))
	below := new(big.Int).Add(first, big.NewInt(int64(n)))
	var out []byte
	for i := range len(s) {
		place := big.NewInt(int64(i) + 1)
		if place.Cmp(first) >= 0 && place.Cmp(below) < 0 {
			out = append(out, s[i])
		}
	}
	return string(out)
}

// P1.2, R1: every place with every count, up to the ends of an int.
func TestCutEnds(t *testing.T) {
	for _, s := range []string{"", "\xff", "hello", "\x00b\xc3\xa9c", allBytes()} {
		for _, from := range ends {
			for _, n := range ends {
				if got, want := Cut(s, from, n), cutByPlaces(s, from, n); got != want {
					t.Fatalf("Cut(%q, %d, %d) = %q, want %q", s, from, n, got, want)
				}
			}
		}
	}
}

// P1.3: Lower and Upper, one after the other.
func TestTurnedTwice(t *testing.T) {
	for _, s := range oddTexts() {
		low, up := Lower(s), Upper(s)
		if len(low) != len(s) || len(up) != len(s) {
			t.Errorf("the length of %.40q: %d, %d", s, len(low), len(up))
		}
		if Lower(up) != low || Lower(low) != low {
			t.Errorf("Lower of Upper of %.40q", s)
		}
		if Upper(low) != up || Upper(up) != up {
			t.Errorf("Upper of Lower of %.40q", s)
		}
	}
}

// P1.3: a whole text is cut from it, and two Cuts are one.
func TestCutJoins(t *testing.T) {
	for _, s := range oddTexts() {
		if got := Cut(s, 1, len(s)); got != s {
			t.Errorf("Cut of all of %.40q = %.40q", s, got)
		}
	}
	s := "\xffhe\x00lo"
	for from := -4; from < 10; from++ {
		for n := range 14 {
			for m := range 14 {
				if got, want := Cut(s, from, n)+Cut(s, from+n, m), Cut(s, from, n+m); got != want {
					t.Fatalf("Cuts of %d and %d from %d on: %q, want %q", n, m, from, got, want)
				}
			}
		}
	}
}

// P1.3: what Index tells is cut there.
func TestIndexCut(t *testing.T) {
	parts := words("a\x80", 4)
	for _, s := range words("a\x80", 8) {
		for _, p := range parts {
			if at := Index(s, p); at > 0 && Cut(s, at, len(p)) != p {
				t.Fatalf("Index(%q, %q) = %d", s, p, at)
			}
		}
	}
}

// R3: an answer has memory of its own.
func TestAnswersAreNew(t *testing.T) {
	s := strings.Repeat("plain 1 ", 8)
	begin := uintptr(unsafe.Pointer(unsafe.StringData(s)))
	for name, got := range map[string]string{
		"Lower": Lower(s), "Upper": Upper(s), "Cut": Cut(s, 3, 9), "Cut of all": Cut(s, 1, len(s)),
	} {
		at := uintptr(unsafe.Pointer(unsafe.StringData(got)))
		if at >= begin && at < begin+uintptr(len(s)) {
			t.Errorf("%s shares memory with its argument", name)
		}
	}
}

// R4: a call tells the same again, whatever was asked between.
func TestSameAgain(t *testing.T) {
	for _, s := range oddTexts() {
		low, up, at, cut := Lower(s), Upper(s), Index(s, "b"), Cut(s, 2, 3)
		Lower("other")
		Cut("other", 1, 2)
		if Lower(s) != low || Upper(s) != up || Index(s, "b") != at || Cut(s, 2, 3) != cut {
			t.Errorf("another answer for %.40q", s)
		}
	}
}
