package match

import (
	"math"
	"testing"

	"winnower/api"
)

// finding is what Find should tell of a text from a place on; at is below 0 of
// nothing.
type finding struct {
	pattern, s  string
	from, at, n int
}

func finds(t *testing.T, all []finding) {
	t.Helper()
	for _, x := range all {
		m := of(t, x.pattern)
		found := x.at >= 0
		at, n, ok := m.Find(x.s, x.from)
		if at != max(x.at, 0) || n != x.n || ok != found {
			t.Errorf("Find(%s, %d) of %q = %d, %d, %v; want %d, %d, %v", brief(x.s), x.from, x.pattern, at, n, ok, max(x.at, 0), x.n, found)
		}
		if x.from == 0 && m.Has(x.s) != found {
			t.Errorf("Has(%s) of %q = %v", brief(x.s), x.pattern, !found)
		}
	}
}

// The chapter's examples.
func TestExamples(t *testing.T) {
	finds(t, []finding{
		{"ab|abc", "xabcab", 0, 1, 3}, {"ab|abc", "xabcab", 2, 4, 2},
		{"a*", "baa", 0, 0, 0}, {"a*", "baa", 1, 1, 2},
		{"^a", "ba", 0, -1, 0}, {"^a", "ba", 1, -1, 0},
		{"b$", "ab", 0, 1, 1},
		{"(a|ab)(c|bcd)(d*)", "abcd", 0, 0, 4},
		{"(a*)*", "b", 0, 0, 0},
		{"x{2,3}", "xxxx", 0, 0, 3},
	})
}

// P6.2: each kind of tree alone, on texts with and without it.
func TestKindsAlone(t *testing.T) {
	finds(t, []finding{
		{"()", "", 0, 0, 0}, {"()", "ab", 0, 0, 0}, {"()", "ab", 1, 1, 0}, {"()", "ab", 2, 2, 0},
		{"a", "", 0, -1, 0}, {"a", "bab", 0, 1, 1}, {"a", "bab", 1, 1, 1}, {"a", "bab", 2, -1, 0}, {"a", "bab", 3, -1, 0},
		{"[ac-e]", "bfd", 0, 2, 1}, {"[^ac-e]", "adf", 0, 2, 1}, {".", "", 0, -1, 0}, {".", "\n", 0, 0, 1},
		{"^", "", 0, 0, 0}, {"^", "ab", 0, 0, 0}, {"^", "ab", 1, -1, 0}, {"^", "ab", 2, -1, 0},
		{"$", "", 0, 0, 0}, {"$", "ab", 0, 2, 0}, {"$", "ab", 1, 2, 0}, {"$", "ab", 2, 2, 0}, {"$", "a\nb", 0, 3, 0}, {"^", "a\nb", 2, -1, 0},
		{"abc", "ababc", 0, 2, 3}, {"abc", "ababc", 3, -1, 0}, {"abc", "ab", 0, -1, 0},
		{"b|a|c", "xca", 0, 1, 1}, {"b|a|c", "xyz", 0, -1, 0},
		{"(ab){2}", "ababab", 0, 0, 4}, {"(ab){2}", "ababab", 1, 2, 4}, {"(ab){2}", "ababab", 3, -1, 0},
	})
	// A set of no byte, which no byte is in.
	m := made(t, set(""))
	texts("a\x00\xff", 3, func(s string) { agrees(t, m, set(""), s) })
	m = made(t, alt(set(""), cat(set("a"), set("")), set("b")))
	if at, n, ok := m.Find("ab", 0); at != 1 || n != 1 || !ok {
		t.Error("past sets of no byte:", at, n, ok)
	}
}

// P6.2: bytes of all kinds are bytes like others.
func TestBytes(t *testing.T) {
	finds(t, []finding{
		{"\x00", "a\x00b", 0, 1, 1}, {"\x00*b", "a\x00\x00b", 0, 1, 3}, {"[^a]", "a\x00", 0, 1, 1}, {"a.b", "a\x00b", 0, 0, 3},
		{"\xff", "\xfe\xff", 0, 1, 1}, {"[\x80-\xff]+", "a\x80\xc3\xa9\xffb", 0, 1, 4}, {"é", "\xc3é", 0, 1, 2}, {".", "é", 1, 1, 1}, {"^.$", "é", 0, -1, 0}, {"^..$", "é", 0, 0, 2},
		{"é+", "\xc3\xa9\xa9", 0, 0, 3}, {"[é]", "\xa9", 0, 0, 1}, {"\n", "a\n", 0, 1, 1}, {"[[:alpha:]]", "\xe9", 0, -1, 0},
	})
	every := make([]byte, 256)
	for b := range every {
		every[b] = byte(b)
	}
	for b := range 256 {
		text := string([]byte{byte(b)})
		if at, n, ok := made(t, set(text)).Find(string(every), 0); at != b || n != 1 || !ok {
			t.Errorf("the byte %d is found at %d, %d, %v", b, at, n, ok)
		}
		others := set(string(every[:b]) + string(every[b+1:]))
		if made(t, others).Has(text) || !made(t, others).Has(string([]byte{byte(b + 1)})) {
			t.Errorf("all bytes but %d", b)
		}
	}
}

// P6.2: from where there is a place of the text, and from where there isn't.
func TestFrom(t *testing.T) {
	for _, pattern := range []string{"", "a", "a*", "^", "$", "^a*$", "b|"} {
		m := of(t, pattern)
		for _, s := range []string{"", "a", "aaa"} {
			for _, from := range []int{math.MinInt, -1 << 32, -2, -1, len(s) + 1, len(s) + 2, 1 << 32, math.MaxInt} {
				if at, n, ok := m.Find(s, from); at != 0 || n != 0 || ok {
					t.Errorf("Find(%q, %d) of %q = %d, %d, %v", s, from, pattern, at, n, ok)
				}
			}
		}
	}
	finds(t, []finding{
		{"a", "aaa", 0, 0, 1}, {"a", "aaa", 1, 1, 1}, {"a", "aaa", 2, 2, 1}, {"a", "aaa", 3, -1, 0},
		{"a*", "aaa", 0, 0, 3}, {"a*", "aaa", 1, 1, 2}, {"a*", "aaa", 3, 3, 0}, {"a*", "", 0, 0, 0},
		{"aa$", "aaa", 0, 1, 2}, {"aa$", "aaa", 2, -1, 0}, {"(^a)*", "aaa", 0, 0, 1}, {"(^a)*", "aaa", 1, 1, 0},
	})
}

// P6.2: the begin and the end, anywhere in a pattern.
func TestBeginAndEnd(t *testing.T) {
	finds(t, []finding{
		{"a^b", "ab", 0, -1, 0}, {"a^b", "a^b", 0, -1, 0}, {"a$b", "ab", 0, -1, 0}, {"a$b", "a$b", 0, -1, 0},
		{"a*^b", "ab", 0, -1, 0}, {"a*^b", "b", 0, 0, 1}, {"a*^b", "ab", 1, -1, 0}, {"a$b*", "ab", 0, -1, 0}, {"a$b*", "ba", 0, 1, 1},
		{"^^a", "a", 0, 0, 1}, {"a$$", "ba", 0, 1, 1}, {"^$", "", 0, 0, 0}, {"$^", "", 0, 0, 0}, {"^$", "a", 0, -1, 0}, {"$^", "a", 0, -1, 0}, {"^$", "a", 1, -1, 0},
		{"(^a|b)c", "acbc", 0, 0, 2}, {"(^a|b)c", "acbc", 1, 2, 2}, {"(^a|b)c", "xac", 0, -1, 0}, {"a(b|$)", "acab", 0, 2, 2}, {"a(b|$)", "aca", 0, 2, 1},
		{"(^a)*b", "aab", 0, 2, 1}, {"(^a)*b", "ab", 0, 0, 2}, {"(^a)+b", "aab", 0, -1, 0}, {"(^a){2}", "aa", 0, -1, 0}, {"(^|a){2}", "aa", 0, 0, 2}, {"(^|a){3}", "aa", 0, 0, 2}, {"(^|a){3}", "aa", 1, -1, 0},
		{"^*a", "ba", 0, 1, 1}, {"^+a", "ba", 0, -1, 0}, {"^?a", "ba", 1, 1, 1}, {"^{2}a", "a", 0, 0, 1}, {"^{0}a", "ba", 0, 1, 1}, {"a$*", "ab", 0, 0, 1}, {"a$+", "ab", 0, -1, 0}, {"(a$)*b", "ab", 0, 1, 1},
		{"(a|^)*b", "xab", 0, 1, 2}, {"(a|$)*", "ab", 0, 0, 1}, {"(b|$)*", "ab", 1, 1, 1}, {"^|b", "ab", 0, 0, 0}, {"^|b", "ab", 1, 1, 1}, {"$|b", "ab", 0, 1, 1}, {"$|a", "ab", 1, 2, 0},
		{"^a|b$|c", "bac", 0, 2, 1}, {"^(a|ab)$", "ab", 0, 0, 2}, {"^(a|ab)$", "abb", 0, -1, 0}, {"(^)(a)($)", "a", 0, 0, 1}, {"b*$", "abab", 0, 3, 1}, {"b*$", "aba", 0, 3, 0},
	})
}

// P6.2: repeats of all sorts.
func TestRepeats(t *testing.T) {
	finds(t, []finding{
		{"a*", "", 0, 0, 0}, {"a*", "aab", 0, 0, 2}, {"a+", "baab", 0, 1, 2}, {"a+", "b", 0, -1, 0}, {"a?", "aa", 0, 0, 1}, {"ba?", "abaa", 0, 1, 2}, {"ba?", "bb", 0, 0, 1},
		{"(a*)+", "b", 0, 0, 0}, {"(a*)+", "aab", 0, 0, 2}, {"(a|())*b", "aab", 0, 0, 3}, {"(()|a)+b", "aab", 0, 0, 3}, {"(a?)*b", "aab", 0, 0, 3}, {"(()*)*a", "ba", 0, 1, 1}, {"()+", "", 0, 0, 0}, {"(){3}a", "a", 0, 0, 1}, {"(a?){3}", "aaaa", 0, 0, 3}, {"(a*){2}b", "aaab", 0, 0, 4}, {"(a?){2,}b", "aaab", 0, 0, 4}, {"(a?){2,3}b", "aaaab", 0, 1, 4}, {"(a*b*)*c", "abbac", 0, 0, 5},
		{"a**", "aa", 0, 0, 2}, {"a+*", "aa", 0, 0, 2}, {"a?+", "aa", 0, 0, 2}, {"a{2}{2}", "aaaaaa", 0, 0, 4}, {"a{2}{2}", "aaa", 0, -1, 0}, {"a{2}*", "aaaaa", 0, 0, 4}, {"a{2}+", "a", 0, -1, 0}, {"(a{2}){1,2}b", "aaaaab", 0, 1, 5}, {"(a{2}b?)*c", "aaabaac", 0, 1, 6}, {"(a{3}|a{5})*b", "aaaaaaab", 0, 1, 7}, {"(ab*)*c", "abbabc", 0, 0, 6},
		{"a{0}", "a", 0, 0, 0}, {"a{0}b", "ab", 0, 1, 1}, {"a{0,0}b", "ab", 0, 1, 1}, {"(ab|c){0}", "ab", 1, 1, 0}, {"a{0}*b", "aab", 0, 2, 1}, {"a{0,1}", "aa", 0, 0, 1}, {"a{0,2}", "aaa", 0, 0, 2}, {"a{0,2}b", "aaab", 0, 1, 3},
		{"a{1}", "aa", 0, 0, 1}, {"a{2}", "aaa", 0, 0, 2}, {"a{2}", "aaa", 1, 1, 2}, {"a{2}", "aaa", 2, -1, 0}, {"(a|bb){2}", "abba", 0, 0, 3}, {"a{3}", "aabaaa", 0, 3, 3},
		{"a{0,}", "aaa", 0, 0, 3}, {"a{1,}", "aaa", 0, 0, 3}, {"a{2,}", "abaaa", 0, 2, 3}, {"a{2,}", "aba", 0, -1, 0}, {"a{3,}b", "aabaaaab", 0, 3, 5}, {"(ab){2,}", "ababab", 0, 0, 6}, {"(a{2,}b){2,}", "aabab", 0, -1, 0}, {"(a{2,}b){2,}", "aabaaab", 0, 0, 7},
		{"x{2,3}", "x", 0, -1, 0}, {"x{2,3}", "xx", 0, 0, 2}, {"x{2,3}", "xxxxx", 3, 3, 2}, {"(ab?){2,3}", "aabaab", 0, 0, 4},
	})
	many := long[:300]
	finds(t, []finding{
		{"a{255}", many, 0, 0, 255}, {"a{255}", many, 45, 45, 255}, {"a{255}", many, 46, -1, 0}, {"a{255}", many[:254], 0, -1, 0}, {"a{255,}", many, 0, 0, 300}, {"a{255,}", many[:254], 0, -1, 0}, {"a{0,255}", many, 0, 0, 255}, {"a{254,255}b", many[:255] + "b", 0, 0, 256}, {"a{254,255}b", many[:256] + "b", 0, 1, 256}, {"a{254,255}b", many[:253] + "b", 0, -1, 0}, {"(a{17}){16,}", many, 0, 0, 289}, {"(a{17}){18}", many, 0, -1, 0},
	})
}

// P6.2: the place counts ahead of the length, and the length ahead of the order
// of ways.
func TestFarthest(t *testing.T) {
	finds(t, []finding{
		{"a|ab|abc", "abc", 0, 0, 3}, {"abc|ab|a", "abc", 0, 0, 3}, {"ab|abc|a", "abd", 0, 0, 2}, {"()|a", "a", 0, 0, 1}, {"a|()", "a", 0, 0, 1}, {"()|a", "ba", 0, 0, 0},
		{"a|ba*|b", "baa", 0, 0, 3}, {"b|xabcd", "xabcb", 0, 2, 1}, {"abcd|bc|c", "abcx", 0, 1, 2}, {"abcd|c", "abcx", 0, 2, 1}, {"bcdefg|abcd|c", "abcdefg", 0, 0, 4}, {"cd|abcde|b", "abcdx", 0, 1, 1},
		{"(a|ab)(c|bcd)", "abcd", 0, 0, 4}, {"(a|ab)(bcd|c)(d*)", "abcdd", 0, 0, 5}, {"(a|b)*|(a|b|c)*", "abc", 0, 0, 3}, {"(xy|x)(y|yz)", "xyz", 0, 0, 3}, {"(a*)(ab)*(b*)", "abb", 0, 0, 3}, {"(a|aa)(a|aab)", "aaab", 0, 0, 4},
		{"a*?b", "aab", 0, 0, 3}, {"a.*b|a", "axbxbx", 0, 0, 5}, {"a.*z|a", "axbxbx", 0, 0, 1}, {"a.*z|xb", "axbxbx", 0, 1, 2}, {"ab*c|b", "abbbd", 0, 1, 1}, {"ab*c|b", "abbbc", 0, 0, 5}, {"ab*c|b+", "abbbd", 0, 1, 3},
	})
}

// P6.1: each wrong tree; shape has more of them.
func TestWrongTrees(t *testing.T) {
	a := set("a")
	for _, r := range []api.Re{
		{}, {Kind: 8}, {Kind: 255}, {Kind: api.ReCat}, {Kind: api.ReAlt}, {Kind: api.ReTimes}, cat(a), alt(a), {Kind: api.ReTimes, Kids: []api.Re{a, a}},
		{Kind: api.ReNone, Set: a.Set}, {Kind: api.ReBegin, Min: 1}, {Kind: api.ReEnd, Max: -1}, {Kind: api.ReNone, Kids: []api.Re{a}}, {Kind: api.ReSet, Min: 1}, {Kind: api.ReSet, Kids: []api.Re{a}}, {Kind: api.ReCat, Max: 1, Kids: []api.Re{a, a}}, {Kind: api.ReAlt, Set: a.Set, Kids: []api.Re{a, a}},
		times(-1, 0, a), times(256, -1, a), times(0, 256, a), times(3, 2, a), times(0, -2, a), times(0, math.MinInt, a), times(0, math.MaxInt, a), times(math.MaxInt, -1, a), times(0, 1, api.Re{}), cat(a, api.Re{}), alt(api.Re{}, a),
		around(200, 0, -1, a), cat(row(a, 10000)...),
	} {
		refused(t, api.ErrPattern, r)
		// Being wrong counts ahead of being too great.
		refused(t, api.ErrPattern, around(10, 255, 255, r))
		refused(t, api.ErrPattern, cat(around(10, 255, 255, a), r))
	}
	// A tree that is its own kid.
	own := times(0, -1, a)
	own.Kids[0] = own
	refused(t, api.ErrPattern, own)
}

// R5: no matcher, and matchers that New did not make.
func TestNoMatcher(t *testing.T) {
	a := made(t, set("a"))
	copied := *a
	full := Matcher{size: 1, states: []state{{}}}
	for name, m := range map[string]*Matcher{"nil": nil, "an empty one": {}, "new": new(Matcher), "a copy": &copied, "one with states": &full} {
		for _, s := range []string{"", "a", "ba"} {
			for from := -1; from < 4; from++ {
				if at, n, ok := m.Find(s, from); at != 0 || n != 0 || ok {
					t.Errorf("Find(%q, %d) of %s = %d, %d, %v", s, from, name, at, n, ok)
				}
			}
			if m.Has(s) {
				t.Errorf("Has(%q) of %s", s, name)
			}
		}
		if m.Size() != 0 {
			t.Errorf("Size of %s = %d", name, m.Size())
		}
	}
	if m, err := New(api.Re{}); m.Has("") || m.Size() != 0 || err != api.ErrPattern {
		t.Error("a matcher beside an error:", m.Size(), err)
	}
	if !a.Has("ba") || a.Size() != 1 {
		t.Error("a matcher that was copied is none")
	}
}
