package shape

import (
	"slices"
	"strings"
	"testing"

	"winnower/api"
)

// P5.2: each kind alone.
func TestShowAlone(t *testing.T) {
	shows(t, "()", none)
	shows(t, "^", begin)
	shows(t, "$", end)
	shows(t, "a", set("a"))
	shows(t, ".", not(""))
	shows(t, "[^a]", not("a"))
	shows(t, "ab", chars("ab"))
	shows(t, "a|b", alt(set("a"), set("b")))
	shows(t, "a*", times(0, -1, set("a")))
	shows(t, "[*][*]", cat(set("*"), set("*")))
	shows(t, "a{2,3}|b", alt(times(2, 3, set("a")), set("b")))
}

// P5.2: which kids are in ( ), first, in the middle and last.
func TestShowKids(t *testing.T) {
	a, b := set("a"), set("b")
	for _, x := range []struct {
		kid                   api.Re
		ofCat, ofAlt, ofTimes string
	}{
		{none, "()", "()", "()"},
		{begin, "^", "^", "(^)"},
		{end, "$", "$", "($)"},
		{a, "a", "a", "a"},
		{not(""), ".", ".", "."},
		{set("xz"), "[xz]", "[xz]", "[xz]"},
		{set("("), "[(]", "[(]", "[(]"},
		{set("{"), "[{]", "[{]", "[{]"},
		{set("}"), "}", "}", "}"},
		{cat(a, b), "(ab)", "ab", "(ab)"},
		{cat(none, begin), "(()^)", "()^", "(()^)"},
		{alt(a, b), "(a|b)", "(a|b)", "(a|b)"},
		{alt(none, end), "(()|$)", "(()|$)", "(()|$)"},
		{times(0, -1, a), "a*", "a*", "a*"},
		{times(2, 3, cat(a, b)), "(ab){2,3}", "(ab){2,3}", "(ab){2,3}"},
		{times(0, 1, begin), "(^)?", "(^)?", "(^)?"},
	} {
		shows(t, x.ofCat+"b", cat(x.kid, b))
		shows(t, "b"+x.ofCat, cat(b, x.kid))
		shows(t, "b"+x.ofCat+"b", cat(b, x.kid, b))
		shows(t, x.ofCat+x.ofCat, cat(x.kid, x.kid))
		shows(t, x.ofAlt+"|b", alt(x.kid, b))
		shows(t, "b|"+x.ofAlt, alt(b, x.kid))
		shows(t, "b|"+x.ofAlt+"|b", alt(b, x.kid, b))
		shows(t, x.ofAlt+"|"+x.ofAlt, alt(x.kid, x.kid))
		shows(t, x.ofTimes+"*", times(0, -1, x.kid))
		shows(t, x.ofTimes+"{7}", times(7, 7, x.kid))
		shows(t, x.ofTimes+"*+", times(1, -1, times(0, -1, x.kid)))
	}
	shows(t, "((a|b)(ab)|b)*", times(0, -1, alt(cat(alt(a, b), cat(a, b)), b)))
	shows(t, "(a|(b|a))|ab", alt(alt(a, alt(b, a)), cat(a, b)))
}

// P5.2: repeats by their signs, else by numbers.
func TestShowRepeats(t *testing.T) {
	for _, x := range []struct {
		least, most int
		want        string
	}{
		{0, -1, "*"}, {1, -1, "+"}, {0, 1, "?"}, {0, 0, "{0}"}, {1, 1, "{1}"}, {2, 2, "{2}"}, {10, 10, "{10}"}, {255, 255, "{255}"},
		{2, -1, "{2,}"}, {10, -1, "{10,}"}, {255, -1, "{255,}"}, {0, 2, "{0,2}"}, {1, 2, "{1,2}"}, {0, 255, "{0,255}"}, {1, 255, "{1,255}"}, {254, 255, "{254,255}"}, {9, 100, "{9,100}"},
	} {
		shows(t, "a"+x.want, times(x.least, x.most, set("a")))
		shows(t, "ab"+x.want+"2}", cat(set("a"), times(x.least, x.most, set("b")), set("2"), set("}")))
		shows(t, "a"+x.want+x.want, times(x.least, x.most, times(x.least, x.most, set("a"))))
	}
}

// P5.2: what would be a repeat, if its { were told as it stands.
func TestShowBraces(t *testing.T) {
	shows(t, "a[{]2}", chars("a{2}"))
	shows(t, "a[{],3}", chars("a{,3}"))
	shows(t, "[{]", set("{"))
	shows(t, "[{]{2}", times(2, 2, set("{")))
	shows(t, "}]-,", chars("}]-,"))
	shows(t, `[\[]:a:]`, chars("[:a:]"))
}

// P5.2: a right tree is told, however long its pattern is; of one of more than
// MaxText bytes Parse, not Show, says ErrLong.
func TestShowLong(t *testing.T) {
	// 128 bytes, one between each two, and five of them behind a backslash or
	// none: as long as brackets get.
	var odd []byte
	for b := 1; b < 256; b += 2 {
		odd = append(odd, byte(b))
	}
	wide := set(string(odd))
	long := len(modelShowSet(wide.Set))
	var kids []api.Re
	for range mostBytes / long {
		kids = append(kids, wide)
	}
	for range mostBytes % long {
		kids = append(kids, set("a"))
	}
	if len(kids) >= mostTrees {
		t.Fatal("too many trees:", len(kids))
	}
	r := cat(kids...)
	text, err := Show(r)
	if want := modelShow(r); err != api.OK || text != want || len(text) != mostBytes {
		t.Errorf("Show of %d bytes: %d bytes, %d", len(want), len(text), err)
	}
	if back, err := Parse(text); err != api.OK || !same(back, r) {
		t.Error("Parse of a long text that was shown:", err)
	}
	more := func(by ...api.Re) []api.Re {
		return append(slices.Clone(kids), by...)
	}
	for _, r := range []api.Re{cat(more(set("a"))...), times(0, -1, r), alt(more(none)...), cat(more(wide)...)} {
		showsLong(t, r)
	}
	// What is not right is not told.
	wrong(t, cat(more(set("a"), api.Re{})...))
	// As many brackets as there may be, and one more.
	for len(kids) < mostTrees-1 {
		kids = append(kids, wide)
	}
	showsLong(t, cat(kids...))
	wrong(t, cat(more(wide)...))
	// Of as many levels as there may be.
	showsLong(t, nested(mostLevels-1, cat(kids[:mostTrees-2*mostLevels]...), func(kid api.Re) api.Re { return cat(set("("), kid) }))
}

// showsLong says that a tree is told by the text that says it, and that this is
// more than Parse takes.
func showsLong(t *testing.T, r api.Re) {
	t.Helper()
	text, err := Show(r)
	if want := modelShow(r); err != api.OK || text != want || len(text) <= mostBytes {
		t.Errorf("Show of a long pattern: %s, %d; want %s", brief(text), err, brief(want))
	}
	fails(t, api.ErrLong, text)
}

// P5.2, P5.4: a pattern that says much in few bytes, and may not be shown.
func TestShowOfShort(t *testing.T) {
	text := strings.Repeat(`[\a-z]`, 1000)
	r, err := Parse(text)
	if err != api.OK {
		t.Fatal(err)
	}
	shows(t, strings.Repeat("[\a-z]", 1000), r)
}
