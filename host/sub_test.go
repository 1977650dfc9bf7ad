package host

import (
	"strings"
	"testing"

	"winnower/api"
	"winnower/match"
	"winnower/shape"
)

// P17.8: what is found is replaced, the first time or all times.
func TestSub(t *testing.T) {
	h := handed(t, "")
	for _, x := range []struct {
		pattern, repl, target string
		first                 string
		times                 int
		all                   string
	}{
		{"a", "x", "banana", "bxnana", 3, "bxnxnx"},
		{"ana", "<>", "banana", "b<>na", 1, "b<>na"},
		{"a", "", "banana", "bnana", 3, "bnn"},
		{"^b", "x", "bb", "xb", 1, "xb"},
		{"b$", "x", "bb", "bx", 1, "bx"},
		{"^", "x", "ab", "xab", 1, "xab"},
		{"$", "x", "ab", "abx", 1, "abx"},
		{"^|$", "x", "ab", "xab", 2, "xabx"},
		{"^$", "x", "", "x", 1, "x"},
		{"[a-z]+", "w", "ab 12 cd", "w 12 cd", 2, "w 12 w"},
		{"a|ab|abc", "-", "abcab", "-ab", 2, "--"},
		{"\n", " ", "a\nb\n", "a b\n", 2, "a b "},
		{"\x00", "0", "\x00a\x00", "0a\x00", 2, "0a0"},
		{".", ".", "\xff\xfe", ".\xfe", 2, ".."},
		{"banana", "x", "banana", "x", 1, "x"},
		// What has no bytes.
		{"", "-", "", "-", 1, "-"},
		{"", "-", "ab", "-ab", 3, "-a-b-"},
		{"x*", "-", "axb", "-axb", 3, "-a-b-"},
		{"x*", "-", "xx", "-", 1, "-"},
		{"x*", "-", "xxaxx", "-axx", 2, "-a-"},
		{"x*", "-", "a", "-a", 2, "-a-"},
		{"b*", "X", "abc", "Xabc", 3, "XaXcX"},
		{"b*", "X", "abbcb", "Xabbcb", 3, "XaXcX"},
		{"a?", "-", "aa", "-a", 2, "--"},
		{"a?", "-", "aab", "-ab", 3, "--b-"},
		{"(ab)*", "-", "abab", "-", 1, "-"},
		{"(ab)*", "-", "aabb", "-aabb", 3, "-a-b-"},
		{"()", "-", "ab", "-ab", 3, "-a-b-"},
		{"$|b", "-", "ab", "a-", 1, "a-"},
		{"b|$", "-", "abb", "a-b", 2, "a--"},
	} {
		subs(t, h, str(x.pattern), str(x.repl), str(x.target), false, 1, x.first)
		subs(t, h, str(x.pattern), str(x.repl), str(x.target), true, x.times, x.all)
	}
	for _, x := range [][2]string{{"x", "banana"}, {"x", ""}, {"^a", "ba"}, {"b$", "ba"}, {"^$", "x"}, {"a{7}", "aaaaaa"}} {
		for _, all := range []bool{false, true} {
			subs(t, h, str(x[0]), str("&&"), str(x[1]), all, 0, x[1])
		}
	}
	are(t, h, "RSTART", 0, "RLENGTH", -1)
	recordIs(t, h, "")
}

// P17.8: what the replacement says.
func TestRepl(t *testing.T) {
	h := handed(t, "")
	for _, x := range []struct{ repl, want string }{
		{"", ""}, {"x", "x"}, {"&", "fo"}, {"[&]", "[fo]"}, {"&&", "fofo"}, {`\&`, "&"}, {`\\`, `\`}, {`\\&`, `\fo`}, {`\\\&`, `\&`}, {`\\\\&`, `\\fo`}, {`\\\\`, `\\`}, {`\\\`, `\\`}, {`\`, `\`}, {`x\`, `x\`}, {`&\`, `fo\`}, {`\n`, `\n`}, {`\a\b\0`, `\a\b\0`}, {`\x&`, `\xfo`}, {`\&\&`, "&&"}, {`\&&`, "&fo"}, {`&\&`, "fo&"}, {`\\x`, `\x`}, {"\x00&\xff", "\x00fo\xff"}, {`$0 \1`, `$0 \1`}, {"\n", "\n"},
	} {
		subs(t, h, str("fo"), str(x.repl), str("<fo>"), false, 1, "<"+x.want+">")
		subs(t, h, str("fo"), str(x.repl), str("<fo>"), true, 1, "<"+x.want+">")
		subs(t, h, str("fo"), str(x.repl), str("fo fo"), true, 2, x.want+" "+x.want)
	}
	subs(t, h, str("a*"), str("<&>"), str("baac"), true, 3, "<>b<aa>c<>")
	subs(t, h, str("a"), str("&"), str("a&a"), true, 2, "a&a")
	// What was put in is not looked at again.
	subs(t, h, str("a"), str("aa"), str("aa"), true, 2, "aaaa")
	subs(t, h, str("ab"), str("b"), str("aab"), true, 1, "ab")
}

// P17.8: all three are texts of any cells.
func TestSubOfCells(t *testing.T) {
	h := handed(t, "")
	subs(t, h, num(2), num(7), num(1223), true, 2, "1773")
	subs(t, h, str("\\."), none(), num(12.5), true, 1, "125")
	subs(t, h, none(), str("-"), strNum(" 1", 1), true, 3, "- -1-")
	subs(t, h, half(), half(), str("0x5"), true, 1, "0.5")
	subs(t, h, str("x"), str("y"), api.Cell{Kind: 4, S: "x"}, true, 0, "")
	sets(t, h, "CONVFMT", str("%.1f"))
	subs(t, h, str("2"), str("&&"), num(0.25), true, 1, "0.22")
}

// P17.8: what has no text, and what is no pattern, in their order.
func TestSubFails(t *testing.T) {
	h := handed(t, "")
	for _, all := range []bool{false, true} {
		sets(t, h, "CONVFMT", str("%.6g"))
		for range 2 {
			subsNot(t, h, str(noPattern), str("x"), str("y"), all, api.ErrPattern)
			subsNot(t, h, str("((a{255}){255})"), str("x"), str("y"), all, api.ErrLong)
		}
		sets(t, h, "CONVFMT", str(wrong))
		subsNot(t, h, half(), str("x"), str("y"), all, api.ErrFormat)
		subsNot(t, h, str("x"), half(), str("y"), all, api.ErrFormat)
		subsNot(t, h, str("x"), str("y"), half(), all, api.ErrFormat)
		subsNot(t, h, str(noPattern), half(), str("y"), all, api.ErrFormat)
		subsNot(t, h, str(noPattern), str("y"), half(), all, api.ErrFormat)
		sets(t, h, "CONVFMT", str("%*d"+strings.Repeat("%4096d", 256)))
		for _, x := range [][3]api.Cell{{half(), num(5000.5), str("x")}, {half(), str("x"), num(5000.5)}, {str("x"), half(), num(5000.5)}} {
			subsNot(t, h, x[0], x[1], x[2], all, api.ErrLong)
			for i := range x {
				switch x[i] {
				case half():
					x[i] = num(5000.5)
				case num(5000.5):
					x[i] = half()
				}
			}
			subsNot(t, h, x[0], x[1], x[2], all, api.ErrFormat)
		}
	}
}

// place is one at which something was found, and how many bytes it has.
type found struct {
	at, n int
}

// allFound tells what is replaced in a text, by a matcher that is asked at each
// place by itself.
func allFound(m *match.Matcher, s string) []found {
	var all []found
	for p := 0; p <= len(s); {
		at, n, ok := m.Find(s, p)
		if !ok || at != p {
			p++
			continue
		}
		ahead := len(all) - 1
		if n > 0 || ahead < 0 || all[ahead].at+all[ahead].n != p {
			all = append(all, found{at, n})
		}
		p += max(n, 1)
	}
	return all
}

// replaced tells a text in which some of what was found is replaced.
func replaced(s, repl string, all []found) string {
	out := ""
	from := 0
	for _, f := range all {
		what := s[f.at : f.at+f.n]
		// No text here has these two bytes.
		with := strings.ReplaceAll(strings.ReplaceAll(repl, `\\`, "\x01"), `\&`, "\x02")
		with = strings.ReplaceAll(with, "&", what)
		with = strings.ReplaceAll(strings.ReplaceAll(with, "\x01", `\`), "\x02", "&")
		out += s[from:f.at] + with
		from = f.at + f.n
	}
	return out + s[from:]
}

// texts tells all texts of some bytes, up to so many of them.
func texts(bytes string, most int) []string {
	every, last := []string{""}, []string{""}
	for range most {
		var longer []string
		for _, s := range last {
			for i := range len(bytes) {
				longer = append(longer, s+bytes[i:i+1])
			}
		}
		last = longer
		every = append(every, last...)
	}
	return every
}

// P17.8: all short texts, by patterns and replacements of many sorts.
func TestSubOfShortTexts(t *testing.T) {
	h := handed(t, "")
	for _, pattern := range []string{"", "a", "b", "ab", "a*", "b*", "a+", "a?", "(ab)*", "a|ab", "a*b*", "^a", "a$", "^", "$", "^a*", "b*$", "^|b", "a|$", "[^a]", ".", ".*", "(a|b)?", "a{2}", "(ab|b)*"} {
		tree, err := shape.Parse(pattern)
		if err != api.OK {
			t.Fatal(pattern)
		}
		m, err := match.New(tree)
		if err != api.OK {
			t.Fatal(pattern)
		}
		for _, s := range texts("abc", 5) {
			all := allFound(m, s)
			for _, repl := range []string{"-", "<&>", `a\&b`} {
				subs(t, h, str(pattern), str(repl), str(s), true, len(all), replaced(s, repl, all))
				subs(t, h, str(pattern), str(repl), str(s), false, min(len(all), 1), replaced(s, repl, all[:min(len(all), 1)]))
			}
		}
		if t.Failed() {
			return
		}
	}
	// All short replacements.
	for _, repl := range texts(`&\x`, 6) {
		subs(t, h, str("a+"), str(repl), str("xaay"), true, 1, replaced("xaay", repl, []found{{1, 2}}))
	}
}

// P17.8: long texts.
func TestSubOfLongTexts(t *testing.T) {
	h := handed(t, "")
	const n = 1 << 18
	subs(t, h, str("a"), str("bb"), str(strings.Repeat("a", n)), true, n, strings.Repeat("bb", n))
	subs(t, h, str("x*"), str("-"), str(strings.Repeat("a", n)), true, n+1, strings.Repeat("-a", n)+"-")
	subs(t, h, str("a+"), str("<&>"), str(strings.Repeat("a", n)), true, 1, "<"+strings.Repeat("a", n)+">")
	subs(t, h, str("z"), str("y"), str(strings.Repeat("a", n)), true, 0, strings.Repeat("a", n))
	subs(t, h, str("a"), str(strings.Repeat("&", 1000)), str(strings.Repeat("a", 1000)), true, 1000, strings.Repeat("a", 1000000))
}
