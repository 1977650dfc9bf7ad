package fields

import (
	"slices"
	"strings"
	"testing"

	"winnower/api"
)

// The chapter's examples.
func TestExamples(t *testing.T) {
	splits(t, " a  b ", " ", false, "a", "b")
	splits(t, "a::b", ":", false, "a", "", "b")
	splits(t, "abc", "", false, "a", "b", "c")
	splits(t, "a1b22c", "[0-9]+", false, "a", "b", "c")
	splits(t, "", ":", false)
	splits(t, "a:b\nc", ":", true, "a", "b", "c")

	r := New("a b c", false)
	sets(t, r, 2, str("x"), " ")
	hasText(t, r, "-", usual, "a-x-c")
	setsNF(t, r, 5, " ")
	hasText(t, r, "-", usual, "a-x-c--")
	isField(t, r, 9, " ", api.Cell{})
	asksFail(t, r, " ", 0, api.ErrField)
	wasSplit(t, r, 1)
}

// P11.1: a text of no bytes has no fields, by whatever FS.
func TestNoBytes(t *testing.T) {
	for _, fs := range []string{" ", "", ":", "\n", "\x00", "\xff", "|", "ab", "a*", "^", "$", "^$", "()", "  ", "::"} {
		splitsBoth(t, "", fs)
	}
}

// P11.1: FS one blank: what stands between bytes 32, 9 and 10, however many.
func TestOneBlank(t *testing.T) {
	for _, s := range []string{" ", "\t", "\n", " \t\n", "\n\n  \t"} {
		splitsBoth(t, s, " ")
	}
	splitsBoth(t, "a", " ", "a")
	splitsBoth(t, "a b", " ", "a", "b")
	splitsBoth(t, " a", " ", "a")
	splitsBoth(t, "a\n", " ", "a")
	splitsBoth(t, "\t\n a\n\n\tb \t c\t", " ", "a", "b", "c")
	// Bytes that are blanks elsewhere, but not here.
	splitsBoth(t, "a\vb\fc\rd\x00e\x85f\xa0g", " ", "a\vb\fc\rd\x00e\x85f\xa0g")
	splitsBoth(t, "\r a\r\n\v", " ", "\r", "a\r", "\v")
	splitsBoth(t, "\xff \x00\t\xc3\n\xa9", " ", "\xff", "\x00", "\xc3", "\xa9")
	for b := range 256 {
		s := "x" + string([]byte{byte(b)}) + "y"
		if b == 32 || b == 9 || b == 10 {
			splitsBoth(t, s, " ", "x", "y")
		} else {
			splitsBoth(t, s, " ", s)
		}
	}
}

// P11.1: FS empty: each byte is a field, with lines, too.
func TestNone(t *testing.T) {
	splitsBoth(t, "a", "", "a")
	splitsBoth(t, " a\t", "", " ", "a", "\t")
	splitsBoth(t, "a\n\nb", "", "a", "\n", "\n", "b")
	splitsBoth(t, "\x00\xff\xc3\xa9", "", "\x00", "\xff", "\xc3", "\xa9")
}

// P11.1: FS one other byte, whatever it is: nothing but itself, and a byte 10
// with lines.
func TestOneByte(t *testing.T) {
	for b := range 256 {
		fs := string([]byte{byte(b)})
		if b == 32 {
			continue
		}
		other := "x"
		if fs == other {
			other = "y"
		}
		splitsBoth(t, fs, fs, "", "")
		splitsBoth(t, other, fs, other)
		splitsBoth(t, other+fs+other, fs, other, other)
		splitsBoth(t, fs+other, fs, "", other)
		splitsBoth(t, other+fs, fs, other, "")
		splitsBoth(t, fs+fs, fs, "", "", "")
		splitsBoth(t, other+fs+fs+" ", fs, other, "", " ")
		if b != 10 {
			splits(t, other+"\n"+fs+other, fs, false, other+"\n", other)
			splits(t, other+"\n"+fs+other, fs, true, other, "", other)
			splits(t, "\n", fs, false, "\n")
			splits(t, "\n", fs, true, "", "")
			splits(t, "\n"+other+"\n\n", fs, true, "", other, "", "")
		}
	}
	splitsBoth(t, "a\tb\t\t c", "\t", "a", "b", "", " c")
	splitsBoth(t, "a\nb\n\n c\n", "\n", "a", "b", "", " c", "")
	splitsBoth(t, "é", "\xa9", "\xc3", "")
}

// P11.1: a byte alone is no pattern.
func TestByteIsNoPattern(t *testing.T) {
	for _, fs := range []string{".", "*", "+", "?", "|", "(", ")", "[", "]", "{", "}", "^", "$", "\\"} {
		splitsBoth(t, "ab"+fs+"c", fs, "ab", "c")
		splits(t, "\n"+fs, fs, true, "", "", "")
	}
}

// P11.1: FS of more bytes: the pattern, as far ahead and as long as can be.
func TestPattern(t *testing.T) {
	splitsBoth(t, "a1b22c", "[0-9]+", "a", "b", "c")
	splitsBoth(t, "abc", "xy", "abc")
	splitsBoth(t, "xy", "xy", "", "")
	splitsBoth(t, "xyxy", "xy", "", "", "")
	splitsBoth(t, "xyaxy", "xy", "", "a", "")
	splitsBoth(t, "axyxyb", "xy", "a", "", "b")
	splitsBoth(t, "xxx", "xx", "", "x")
	splitsBoth(t, "abcabd", "a|ab|abc", "", "", "d")
	splitsBoth(t, "xabcd", "(a|ab)(c|bcd)", "x", "")
	splitsBoth(t, "a||b", "\\|", "a", "", "b")
	splitsBoth(t, "a.b", "\\.", "a", "b")
	splitsBoth(t, "a  b   c", "  ", "a", "b", " c")
	splitsBoth(t, "a \tb", "[ ]", "a", "\tb")
	splitsBoth(t, "xéy\xc3", "é", "x", "y\xc3")
	splitsBoth(t, "a\x00\xffb\x00", "\x00\xff", "a", "b\x00")
	splitsBoth(t, "ab", "..", "", "")
	splitsBoth(t, "abc", "..", "", "c")
	splitsBoth(t, "abc", ".+", "", "")
}

// P11.1: a place at which the pattern is found with nothing is gone past.
func TestFoundWithNothing(t *testing.T) {
	for _, fs := range []string{"()", "()*", "a{0}", "x*", "(^|$)", "^^", "$$", "x?y?", "(x|())+"} {
		splitsBoth(t, "abc", fs, "abc")
		splitsBoth(t, "a", fs, "a")
	}
	splitsBoth(t, "bab", "a*", "b", "b")
	splitsBoth(t, "aabaa", "a*", "", "b", "")
	splitsBoth(t, "bbaaabb", "a*", "bb", "bb")
	splitsBoth(t, "bab", "()|a", "b", "b")
	splitsBoth(t, "xyab", "(ab)?", "xy", "")
	splitsBoth(t, "aab", "(ab)?", "a", "")
	splitsBoth(t, "aac", "(ab)?", "aac")
	splitsBoth(t, "a, b,c ,d", " *,? *", "a", "b", "c", "d")
	splitsBoth(t, "aab", "a?b?", "", "", "")
	splits(t, "b\na", "a*", true, "b", "", "")
	splits(t, "b\nb", "x*", true, "b", "b")
	splits(t, "b\nb", "()", true, "b", "b")
	splits(t, "b\nb", "()", false, "b\nb")
}

// P11.1: ^ and $ are the ends of the whole text, behind the first field, too.
func TestEnds(t *testing.T) {
	splitsBoth(t, "aab", "^a", "", "ab")
	splitsBoth(t, "aba", "^a", "", "ba")
	splitsBoth(t, "baa", "^a", "baa")
	splitsBoth(t, "aab", "^a*", "", "b")
	splitsBoth(t, "aaba", "^a|b", "", "a", "a")
	splitsBoth(t, "baa", "a$", "ba", "")
	splitsBoth(t, "aab", "a$", "aab")
	splitsBoth(t, "abab", "ab$", "ab", "")
	splitsBoth(t, "aba", "^a|a$", "", "b", "")
	splitsBoth(t, "xaxa", "x|^a", "", "a", "a")
	splitsBoth(t, "a", "^a$", "", "")
	splitsBoth(t, "aa", "^a$", "aa")
	// A byte 10 is no end.
	splits(t, "b\na", "^a", true, "b", "a")
	splits(t, "a\nb", "a$", true, "a", "b")
	splits(t, "a\na", "^a", true, "", "", "a")
	splits(t, "a\na", "^a", false, "", "\na")
	splits(t, "\n", "^$", true, "", "")
}

// P11.1: with lines a pattern parts as (FS)|(byte 10) does.
func TestPatternWithLines(t *testing.T) {
	splits(t, "a::b\nc", "::", true, "a", "b", "c")
	splits(t, "a::b\nc", "::", false, "a", "b\nc")
	splits(t, "\na::\n", "::", true, "", "a", "", "")
	splits(t, "\n\n", "::", true, "", "", "")
	splits(t, "axb\ncyd", "x|y", true, "a", "b", "c", "d")
	splits(t, "axb\ncyd", "x|y", false, "a", "b\nc", "d")
	splits(t, "a\nxb\nx", "\nx|b", true, "a", "", "", "")
	splits(t, "ab\nc", "b|", true, "a", "", "c")
	// As long as can be: a byte 10 alone is the shorter one.
	splits(t, "a\n\n\nb", "\n+", true, "a", "b")
	splits(t, "a\n\n\nb", "\n\n", true, "a", "", "b")
	splits(t, "a:\nb\n:c", ":?\n:?", true, "a", "b", "c")
	splits(t, "a:\nb", ":\n", true, "a", "b")
	splits(t, "a\nb", "[^a]+", true, "a", "")
	splits(t, "a\nb", "[^a\n]", true, "a", "", "")
	splits(t, "a{\nb", "a{", true, "", "", "b")
	splits(t, "a\\\nb", "\\\\", true, "a", "", "b")
}

// P11.1: the errors of what is no pattern, and of what is too great, of a text
// of no bytes, too.
func TestNoPattern(t *testing.T) {
	for _, s := range []string{"", "a", "(a", "a\nb", strings.Repeat("a:", mostFields+1)} {
		for _, lines := range []bool{false, true} {
			for _, fs := range []string{"(a", "a)", "*a", "a|*", "[a", "a\\", "a{3,2}", "a{256}", "[[:no:]]", "[b-a]"} {
				splitsNot(t, s, fs, lines, api.ErrPattern)
			}
			// With ( ahead and ) behind they would be patterns.
			for _, fs := range []string{"a)|(b", "a)(b", ")("} {
				splitsNot(t, s, fs, lines, api.ErrPattern)
			}
			splitsNot(t, s, tooLong, lines, api.ErrLong)
			splitsNot(t, s, "a"+strings.Repeat("*", 200), lines, api.ErrLong)
			splitsNot(t, s, strings.Repeat("a", 10000), lines, api.ErrLong)
		}
	}
	for _, s := range []string{"", strings.Repeat("a:", mostFields+1)} {
		splitsNot(t, s, sized(mostSize+1), s == "", api.ErrLong)
	}
	// The length counts ahead of all, and then that it is no pattern.
	splitsNot(t, "", strings.Repeat("(", mostText+1), false, api.ErrLong)
	splitsNot(t, "", strings.Repeat("(", mostText), true, api.ErrPattern)
}

// P11.1: a pattern that is one without lines, but too great with them.
func TestTooGreatWithLines(t *testing.T) {
	for _, x := range []struct{ name, fits, tooGreat, most string }{
		{"size", sized(mostSize - 2), sized(mostSize - 1), sized(mostSize)},
		{"levels", "a" + strings.Repeat("*", 198), "a" + strings.Repeat("*", 199), "a" + strings.Repeat("*", 199)},
		{"trees", strings.Repeat("a", 9997), strings.Repeat("a", 9998), strings.Repeat("a", 9999)},
		{"bytes", bracketed(mostText - 6), bracketed(mostText - 5), bracketed(mostText)},
	} {
		for _, fs := range []string{x.fits, x.tooGreat, x.most} {
			if l, err := Split("b:b\nb", fs, false); !slices.Equal(l, []string{"b:b\nb"}) || err != api.OK {
				t.Errorf("by %s, without lines: %s, %d", x.name, briefs(l), err)
			}
			splits(t, "", fs, false)
		}
		splits(t, "b:b\nb", x.fits, true, "b:b", "b")
		splits(t, "", x.fits, true)
		for _, s := range []string{"", "a", "b:b\nb", strings.Repeat("\n", mostFields)} {
			splitsNot(t, s, x.tooGreat, true, api.ErrLong)
			splitsNot(t, s, x.most, true, api.ErrLong)
		}
	}
}

// P11.1: 10000 fields, and no more, by each kind of FS.
func TestMostFields(t *testing.T) {
	for _, x := range []struct {
		fs    string
		lines bool
		piece string // a field, and what parts it from the next one
		field string
		last  string
	}{
		{" ", false, "a ", "a", "a"}, {" ", true, "a\n", "a", "a\t"}, {" ", false, "\t a\n", "a", "a \n"},
		{"", false, "a", "a", "a"}, {"", true, "\n", "\n", "\n"},
		{":", false, "a:", "a", "a"}, {":", true, "a\n", "a", "a"}, {":", false, ":", "", ""}, {":", true, "\n", "", ""},
		{"\n", false, "\n", "", ""}, {"\n", true, "\n", "", ""}, {".", false, ".", "", ""}, {"\x00", false, "\x00", "", ""}, {"\xff", true, "x\xff", "x", "x"},
		{"::", false, "a::", "a", "a"}, {"::", true, "a\n", "a", "a"}, {"b*", false, "abb", "a", "a"}, {"()", true, "\n", "", ""}, {"a|b", true, "a", "", ""},
	} {
		many := strings.Repeat(x.piece, mostFields-1)
		want := slices.Repeat([]string{x.field}, mostFields)
		splits(t, many+x.last, x.fs, x.lines, want...)
		splits(t, many[len(x.piece):]+x.last, x.fs, x.lines, want[1:]...)
		splitsNot(t, many+x.piece+x.last, x.fs, x.lines, api.ErrFull)
		splitsNot(t, strings.Repeat(many, 3), x.fs, x.lines, api.ErrFull)
	}
}

// P11.4: the fields of one byte, that byte between them, are the text.
func TestFieldsAreTheText(t *testing.T) {
	r := seeded()
	for b := range 256 {
		fs := string([]byte{byte(b)})
		if fs == " " {
			continue
		}
		for range 20 {
			s := make([]byte, r.Intn(30))
			for i := range s {
				s[i] = one(r, byte(b), byte(b)+1, ' ', '\n', byte(r.Intn(256)))
			}
			l, err := Split(string(s), fs, false)
			if strings.Join(l, fs) != string(s) || err != api.OK {
				t.Fatalf("Split(%q, %q) = %q, %d", s, fs, l, err)
			}
		}
	}
}
