package shape

import (
	"strings"
	"testing"

	"winnower/api"
)

// The chapter's examples.
func TestExamples(t *testing.T) {
	says(t, "ab|c*", alt(chars("ab"), times(0, -1, set("c"))))
	says(t, "a{2,3}", times(2, 3, set("a")))
	says(t, "a{,3}", chars("a{,3}"))
	says(t, "a{x}", chars("a{x}"))
	says(t, "[]a-c]", set("]abc"))
	says(t, "[^[:digit:]x-]", not("0123456789x-"))
	says(t, `\.`, set("."))
	says(t, "(a|)", alt(set("a"), none))
	says(t, "^a$", cat(begin, set("a"), end))
	fails(t, api.ErrPattern, "{2}", "*a", "a|*", "(a", "a)", "[a", "[b-a]", "[[:no:]]", `a\`, "a{3,2}", "a{256}")
	shows(t, "[a-cx]", set("abcx"))
}

// P5.1: of no byte, ways of nothing, groups of nothing.
func TestNothing(t *testing.T) {
	says(t, "", none)
	says(t, "()", none)
	says(t, "(())", none)
	says(t, "()()", cat(none, none))
	says(t, "|", alt(none, none))
	says(t, "||", alt(none, none, none))
	says(t, "a|", alt(set("a"), none))
	says(t, "|a", alt(none, set("a")))
	says(t, "a||b", alt(set("a"), none, set("b")))
	says(t, "(|)", alt(none, none))
	says(t, "(|a)b", cat(alt(none, set("a")), set("b")))
	says(t, "a()", cat(set("a"), none))
	says(t, "a|()", alt(set("a"), none))
	says(t, "()*", times(0, -1, none))
	says(t, "(){2}", times(2, 2, none))
}

// P5.1: ways, pieces, groups: a group is what stands in it, and nothing beside.
func TestGroups(t *testing.T) {
	a, b, c := set("a"), set("b"), set("c")
	says(t, "a", a)
	says(t, "(a)", a)
	says(t, "((a))", a)
	says(t, "ab", cat(a, b))
	says(t, "(ab)", cat(a, b))
	says(t, "abc", cat(a, b, c))
	says(t, "(ab)c", cat(cat(a, b), c))
	says(t, "a(bc)", cat(a, cat(b, c)))
	says(t, "(a)(b)", cat(a, b))
	says(t, "a|b", alt(a, b))
	says(t, "a|b|c", alt(a, b, c))
	says(t, "(a|b)|c", alt(alt(a, b), c))
	says(t, "a|(b|c)", alt(a, alt(b, c)))
	says(t, "(a|b)c", cat(alt(a, b), c))
	says(t, "a(b|c)", cat(a, alt(b, c)))
	says(t, "a|bc", alt(a, cat(b, c)))
	says(t, "ab|c", alt(cat(a, b), c))
	says(t, "(ab|c)|(bc)", alt(alt(cat(a, b), c), cat(b, c)))
	says(t, "(a(b(c)))", cat(a, cat(b, c)))
	says(t, "((a)b)c", cat(cat(a, b), c))
	says(t, "((a|b)(c|a)|b)*", times(0, -1, alt(cat(alt(a, b), alt(c, a)), b)))
	fails(t, api.ErrPattern, "(", ")", "(()", "())", "((a)", "(a))", "a(", ")a", ")(", "a|(", "a|)", "(a|", "a|b)", "(a)(", "((", "))", "(a)b)", "()(", "())(", "(*)", "(a")
}

// P5.1: a begin and an end are atoms wherever they stand.
func TestBeginEnd(t *testing.T) {
	says(t, "^", begin)
	says(t, "$", end)
	says(t, "a^b$c", cat(set("a"), begin, set("b"), end, set("c")))
	says(t, "^^$$", cat(begin, begin, end, end))
	says(t, "$^", cat(end, begin))
	says(t, "(^a|b$)", alt(cat(begin, set("a")), cat(set("b"), end)))
	says(t, "^*", times(0, -1, begin))
	says(t, "$+", times(1, -1, end))
	says(t, "^{2}", times(2, 2, begin))
	says(t, "a|^", alt(set("a"), begin))
}

// P5.1: each repeat, and repeats of repeats.
func TestRepeats(t *testing.T) {
	a, b := set("a"), set("b")
	says(t, "a*", times(0, -1, a))
	says(t, "a+", times(1, -1, a))
	says(t, "a?", times(0, 1, a))
	says(t, "ab*", cat(a, times(0, -1, b)))
	says(t, "a*b", cat(times(0, -1, a), b))
	says(t, "a|b+", alt(a, times(1, -1, b)))
	says(t, "(ab)?", times(0, 1, cat(a, b)))
	says(t, "(a|b)*", times(0, -1, alt(a, b)))
	says(t, ".*", times(0, -1, not("")))
	says(t, "[ab]+", times(1, -1, set("ab")))
	says(t, `\*?`, times(0, 1, set("*")))
	says(t, "]*", times(0, -1, set("]")))
	says(t, "}*", times(0, -1, set("}")))
	says(t, "{*", times(0, -1, set("{")))
	says(t, "a**", times(0, -1, times(0, -1, a)))
	says(t, "a+?", times(0, 1, times(1, -1, a)))
	says(t, "a?+*", times(0, -1, times(1, -1, times(0, 1, a))))
	says(t, "(a*)*", times(0, -1, times(0, -1, a)))
	says(t, "a{2}{3}", times(3, 3, times(2, 2, a)))
	says(t, "a{2,}*{0,1}", times(0, 1, times(0, -1, times(2, -1, a))))
	says(t, "a*{,", cat(times(0, -1, a), set("{"), set(",")))
	fails(t, api.ErrPattern, "*", "+", "?", "{2}", "{0}", "{2,}", "{2,3}", "+a", "?a", "a|+", "a|?b", "|*", "|{1}", "(*a)", "(+)", "(?)", "({2})", "(|*)", "(|{2})", "(a|?)", "a(*)", "a||*", "{2}*", "(*", "*)", "a|{3}")
}

// P5.1: intervals of one to three digits, to 255, the second one not below.
func TestIntervals(t *testing.T) {
	a := set("a")
	for _, x := range []struct {
		text        string
		least, most int
	}{
		{"a{0}", 0, 0}, {"a{1}", 1, 1}, {"a{9}", 9, 9}, {"a{10}", 10, 10}, {"a{99}", 99, 99}, {"a{100}", 100, 100}, {"a{255}", 255, 255},
		{"a{00}", 0, 0}, {"a{000}", 0, 0}, {"a{01}", 1, 1}, {"a{007}", 7, 7}, {"a{010}", 10, 10},
		{"a{0,}", 0, -1}, {"a{1,}", 1, -1}, {"a{2,}", 2, -1}, {"a{255,}", 255, -1}, {"a{002,}", 2, -1},
		{"a{0,0}", 0, 0}, {"a{0,1}", 0, 1}, {"a{1,1}", 1, 1}, {"a{1,2}", 1, 2}, {"a{0,255}", 0, 255}, {"a{255,255}", 255, 255}, {"a{254,255}", 254, 255}, {"a{9,10}", 9, 10}, {"a{99,100}", 99, 100}, {"a{010,010}", 10, 10}, {"a{1,001}", 1, 1},
	} {
		says(t, x.text, times(x.least, x.most, a))
		says(t, "b"+x.text+"c", cat(set("b"), times(x.least, x.most, a), set("c")))
	}
	fails(t, api.ErrPattern,
		"a{256}", "a{257}", "a{300}", "a{999}", "a{256,}", "a{0,256}", "a{255,256}", "a{256,256}", "a{256,1}", "a{1,999}",
		"a{1000}", "a{0000}", "a{0001}", "a{0255}", "a{1234}", "a{0001,}", "a{0,0001}", "a{1,1000}", "a{1,0255}", "a{18446744073709551617}", "a{1,18446744073709551617}", "a{4294967296}",
		"a{1,0}", "a{3,2}", "a{255,254}", "a{10,9}", "a{100,99}", "a{2,1}*", "a{010,9}",
		"a{2", "a{25", "a{255", "a{2,", "a{2,3", "a{2,255", "a{2x}", "a{2 }", "a{2, }", "a{2 ,3}", "a{2, 3}", "a{2,3 }", "a{2,x}", "a{2,3,4}", "a{2,,3}", "a{2,,}", "a{2;3}", "a{2-3}", "a{2.}", "a{2]", "a{2)", "(a{2)", "a{2|b}", "a{2{", "a{2}{3", "a{2,-1}", "a{1,+2}", "a{2\x00}", "a{2\xff}", "a{2,\\}", "a{2\\}", "(a){2", "[a]{2", "({2", "{2x}", "{2")
}

// P5.1: a brace behind which no digit stands is a byte; a } and a ] always.
func TestBraces(t *testing.T) {
	for _, text := range []string{"{x", "{x}", "{,3}", "{}", "{{", "{a2}", "{ 2}", "{-1}", "{]", "}{", "a{x", "a{", "a{{", "a{}", "a{,}", "a{ 2}", "a{-1}", "a{/", "a{:", "a{\x00", "a{\xb2}", "}]", "a}", "a]", "]a]", "a}b]c", "2}", "a2}", "{,"} {
		says(t, text, chars(text))
		says(t, "("+text+")", chars(text))
		says(t, "|"+text, alt(none, chars(text)))
		says(t, text+"|"+text, alt(chars(text), chars(text)))
		says(t, "(|"+text+")", alt(none, chars(text)))
	}
	for _, text := range []string{"{", "}", "]"} {
		says(t, text, set(text))
		says(t, "("+text+")", set(text))
		says(t, "|"+text, alt(none, set(text)))
		says(t, text+"|", alt(set(text), none))
		says(t, "a|"+text+"b", alt(set("a"), chars(text+"b")))
		says(t, text+"{2}", times(2, 2, set(text)))
		says(t, `\`+text, set(text))
	}
	says(t, `\{2}`, chars("{2}"))
	says(t, `a\{2}`, chars("a{2}"))
	says(t, `a{\2}`, chars("a{2}"))
	says(t, "a{(2)}", chars("a{2}"))
	says(t, "{{2}", times(2, 2, set("{")))
	says(t, "a{{2}}", cat(set("a"), times(2, 2, set("{")), set("}")))
	says(t, "{$", cat(set("{"), end))
	says(t, "{|}", alt(set("{"), set("}")))
	says(t, "a{2}{", cat(times(2, 2, set("a")), set("{")))
	says(t, "a{2}}", cat(times(2, 2, set("a")), set("}")))
	fails(t, api.ErrPattern, "{0", "{9}", "({9", "|{9", "(a|{0}", "a|{1,2}")
}

// P5.1: each byte, as it stands and behind a backslash.
func TestBytes(t *testing.T) {
	marks := map[byte]byte{'a': 7, 'b': 8, 'f': 12, 'n': 10, 'r': 13, 't': 9, 'v': 11}
	others := map[byte]api.Re{'^': begin, '$': end, '.': not("")}
	for i := range 256 {
		b := string([]byte{byte(i)})
		want := set(b)
		if m, ok := marks[byte(i)]; ok {
			want = set(string([]byte{m}))
		}
		says(t, `\`+b, want)
		says(t, `x\`+b+`*`, cat(set("x"), times(0, -1, want)))
		if strings.Contains(`\[()|*+?`, b) {
			continue
		}
		want = set(b)
		if o, ok := others[byte(i)]; ok {
			want = o
		}
		says(t, b, want)
		says(t, b+"x", cat(want, set("x")))
		says(t, b+"+", times(1, -1, want))
	}
	plain := "}]-,:=!/\"'&~`<>@#%_;{ \t\n\x00\x7f\x80\xffé"
	says(t, plain, chars(plain))
	says(t, ".", set(bytesOf(0, 255)))
	says(t, `\0\1\x\d\w\s`, chars("01xdws"))
	says(t, `\\\\`, chars(`\\`))
	says(t, `\\*`, times(0, -1, set(`\`)))
	says(t, "\\\n", set("\n"))
	says(t, "\x00*", times(0, -1, set("\x00")))
	fails(t, api.ErrPattern, `\`, `\\\`, `a\`, `(a)\`, `a|\`, `(\)`, `(a\)`, `[a]\`, `a*\`, `a{2}\`)
}

// P5.1: texts of MaxText bytes may be; longer ones are refused ahead of all.
func TestLongTexts(t *testing.T) {
	says(t, "["+strings.Repeat("a", mostBytes-2)+"]", set("a"))
	says(t, strings.Repeat("(", mostBytes/2-1)+"ab"+strings.Repeat(")", mostBytes/2-1), chars("ab"))
	fails(t, api.ErrLong,
		"["+strings.Repeat("a", mostBytes-1)+"]",
		strings.Repeat("a", mostBytes+1),
		strings.Repeat("(", mostBytes+1),
		strings.Repeat(")", mostBytes+1),
		strings.Repeat("[", mostBytes+1),
		"*"+strings.Repeat("a", mostBytes),
		strings.Repeat("a", mostBytes)+`\`,
		strings.Repeat("()", mostBytes/2+1))
	fails(t, api.ErrLong,
		strings.Repeat("a", mostBytes),
		"a"+strings.Repeat("*", mostBytes-1),
		strings.Repeat("|", mostBytes),
		strings.Repeat("()", mostBytes/2),
		strings.Repeat("(a", mostBytes/3)+strings.Repeat(")", mostBytes/3))
	fails(t, api.ErrPattern,
		strings.Repeat("(", mostBytes),
		strings.Repeat(")", mostBytes),
		strings.Repeat("*", mostBytes),
		"["+strings.Repeat("a", mostBytes-1),
		strings.Repeat("[:", mostBytes/2),
		"[["+strings.Repeat(":", mostBytes-2),
		"["+strings.Repeat("[:alpha:]", mostBytes/9-1),
		"a{"+strings.Repeat("0", mostBytes-3)+"}",
		strings.Repeat("(", mostBytes/2-2)+"ab"+strings.Repeat(")", mostBytes/2))
}

// P5.1: a tree of too many levels.
func TestParsedLevels(t *testing.T) {
	a := set("a")
	star := func(kid api.Re) api.Re { return times(0, -1, kid) }
	pair := func(kid api.Re) api.Re { return cat(set("b"), kid) }
	either := func(kid api.Re) api.Re { return alt(kid, none) }
	for _, levels := range []int{1, 2, 3, 100, mostLevels - 1, mostLevels, mostLevels + 1, mostLevels + 2, 1000} {
		for _, x := range []struct {
			before, behind string
			around         func(kid api.Re) api.Re
		}{
			{"", "*", star}, {"(", ")*", star}, {"(b", ")", pair}, {"(", "|)", either}, {"((", "|))", either},
		} {
			text := strings.Repeat(x.before, levels-1) + "a" + strings.Repeat(x.behind, levels-1)
			if levels > mostLevels {
				fails(t, api.ErrLong, text)
				fails(t, api.ErrLong, "()|"+text)
				continue
			}
			says(t, text, nested(levels, a, x.around))
		}
	}
	// Groups are no levels.
	says(t, strings.Repeat("(", 1<<16)+"a"+strings.Repeat(")", 1<<16), a)
	says(t, strings.Repeat("(", 300)+strings.Repeat(")", 300), none)
	says(t, strings.Repeat("a", 300)+strings.Repeat("(a)", 300), chars(strings.Repeat("a", 600)))
}

// P5.1: a tree of too many trees.
func TestParsedTrees(t *testing.T) {
	says(t, strings.Repeat("a", mostTrees-1), chars(strings.Repeat("a", mostTrees-1)))
	says(t, strings.Repeat("a", mostTrees-2)+"*", cat(append(chars(strings.Repeat("a", mostTrees-3)).Kids, times(0, -1, set("a")))...))
	fails(t, api.ErrLong,
		strings.Repeat("a", mostTrees),
		strings.Repeat("a", mostTrees-1)+"*",
		strings.Repeat("a", mostTrees-2)+"**",
		strings.Repeat("(ab)", mostTrees/3)+"a",
		strings.Repeat("a*", mostTrees/2),
		strings.Repeat("|", mostTrees-1))
	// Each (ab) is 3 trees, each way of nothing 1, the whole 1.
	for _, text := range []string{strings.Repeat("(ab)", mostTrees/3), strings.Repeat("|", mostTrees-2), strings.Repeat("a*", mostTrees/2-1) + "a"} {
		if r, err := Parse(text); err != api.OK || modelTrees(r) != mostTrees {
			t.Errorf("Parse(%s): %d trees, error %d", brief(text), modelTrees(r), err)
		}
	}
}

// P5.1: what is no pattern is told of ahead of a tree that is too great.
func TestErrorsInOrder(t *testing.T) {
	deep := "a" + strings.Repeat("*", 500)
	wide := strings.Repeat("a", mostTrees+1)
	for _, text := range []string{deep, wide} {
		fails(t, api.ErrLong, text, "("+text+")", text+"|b", text+"()", text+"{2}", "^"+text)
		fails(t, api.ErrPattern, text+")", "("+text, text+`\`, text+"[", text+"|*", text+"{3,2}", text+"{256}", "*"+text, text+"[[:no:]]", text+"[b-a]", "[b-a]"+text)
	}
}
