package host

import (
	"strconv"
	"strings"
	"testing"

	"winnower/api"
)

// P17.6: whether a pattern is found in a text.
func TestMatch(t *testing.T) {
	h := handed(t, "")
	for _, x := range []struct {
		text, pattern string
		want          bool
	}{
		{"foobar", "o+", true}, {"foobar", "^o", false}, {"foobar", "r$", true}, {"foobar", "^foobar$", true}, {"", "", true}, {"x", "", true}, {"", "x", false}, {"", "^$", true}, {"", "x*", true}, {"a\nb", "^b", false}, {"a\x00b", "\x00", true}, {"a", ".", true}, {"\xff", "[^a]", true}, {"ab", "a|x", true}, {"a.b", "a\\.b", true}, {"axb", "a\\.b", false},
	} {
		for range 3 {
			finds(t, h, str(x.text), str(x.pattern), x.want)
		}
	}
	// What is found elsewhere is nothing to match's specials.
	are(t, h, "RSTART", 0, "RLENGTH", -1)
}

// P17.6: both are texts of any cells.
func TestMatchOfCells(t *testing.T) {
	h := handed(t, "")
	finds(t, h, num(12), num(2), true)
	finds(t, h, num(0.25), str("^0\\.25$"), true)
	finds(t, h, str("0x5"), half(), true)
	finds(t, h, none(), none(), true)
	finds(t, h, strNum(" 1 ", 1), str("^ 1 $"), true)
	finds(t, h, api.Cell{Kind: 4, S: "x"}, str("x"), false)
	sets(t, h, "CONVFMT", str("%.1f"))
	finds(t, h, num(0.25), str("^0\\.2$"), true)
	sets(t, h, "CONVFMT", str(wrong))
	findsNot(t, h, half(), str("x"), api.ErrFormat)
	findsNot(t, h, str("x"), half(), api.ErrFormat)
	// What has no text counts ahead of what is no pattern, and the text ahead of
	// the pattern.
	findsNot(t, h, half(), str(noPattern), api.ErrFormat)
	sets(t, h, "CONVFMT", str("%*d"+strings.Repeat("%4096d", 256)))
	findsNot(t, h, half(), num(5000.5), api.ErrLong)
	findsNot(t, h, num(5000.5), half(), api.ErrFormat)
}

// P17.6: what is no pattern, or too great a one, again and again.
func TestMatchOfNoPattern(t *testing.T) {
	h := handed(t, "")
	for range 3 {
		for _, pattern := range []string{noPattern, "*", "a**(", "[", "a{3,2}", "(", "x\\", "[b-a]"} {
			findsNot(t, h, str("x"), str(pattern), api.ErrPattern)
		}
		findsNot(t, h, str("x"), str("((a{255}){255})"), api.ErrLong)
		findsNot(t, h, str("x"), str(strings.Repeat("(", 300)+"a"+strings.Repeat("*)", 300)), api.ErrLong)
		findsNot(t, h, str("x"), str(strings.Repeat("a", 10001)), api.ErrLong)
		finds(t, h, str("x"), str("x"), true)
	}
	findsNot(t, h, str("x"), str("["+strings.Repeat("a", 1<<20)+"]"), api.ErrLong)
}

// P17.6: a great many patterns, each of them asked again behind all others.
func TestManyPatterns(t *testing.T) {
	h := handed(t, "")
	for range 2 {
		for i := range 3000 {
			text := "x" + strconv.Itoa(i) + "y"
			finds(t, h, str(text), str("^x"+strconv.Itoa(i)+"y$"), true)
			finds(t, h, str(text+"y"), str("^x"+strconv.Itoa(i)+"y$"), false)
		}
	}
}

// P17.6: one pattern many times, in calls of all sorts.
func TestOnePattern(t *testing.T) {
	h := handed(t, "")
	for range 1000 {
		finds(t, h, str("xaab"), str("a+"), true)
		calls(t, h, "match", num(2), str("xaab"), str("a+"))
		subs(t, h, str("a+"), str("-"), str("xaab"), false, 1, "x-b")
		finds(t, h, str("xb"), str("a+"), false)
	}
}
