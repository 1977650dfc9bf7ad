package shape

import (
	"strings"
	"testing"

	"winnower/api"
)

const (
	digits = "0123456789"
	smalls = "abcdefghijklmnopqrstuvwxyz"
	greats = "ABCDEFGHIJKLMNOPQRSTUVWXYZ"
	puncts = "!\"#$%&'()*+,-./:;<=>?@[\\]^_`{|}~"
)

// P5.1: what brackets say.
func TestBrackets(t *testing.T) {
	for text, members := range map[string]string{
		"[a]": "a", "[ab]": "ab", "[ba]": "ab", "[aa]": "a", "[abca]": "abc", "[ ]": " ", "[.]": ".", "[*]": "*", "[$]": "$", "[(]": "(", "[)]": ")", "[|]": "|", "[{]": "{", "[}]": "}", "[+?]": "+?", "[(a|b)*]": "(a|b)*", "[a{2}]": "a{2}", "[\x00]": "\x00", "[\x80\xff]": "\x80\xff", "[\n]": "\n", "[é]": "\xc3\xa9", "[/\"]": "/\"",
		// ] first
		"[]]": "]", "[]a]": "]a", "[]-]": "]-", "[]-a]": "]^_`a", "[]-]a]": "", "[]^]": "]^", "[]]a": "",
		// ^
		"[a^]": "a^", "[a^b]": "a^b", "[]^a]": "]^a",
		// -
		"[-]": "-", "[--]": "-", "[---]": "-", "[----]": "-", "[-a]": "-a", "[a-]": "-a", "[-a-]": "-a", "[a-c]": "abc", "[a-a]": "a", "[a-b]": "ab", "[a-c-]": "abc-", "[a-c-e]": "abc-e", "[a-ce-g]": "abcefg", "[a-c-e-g]": "abc-efg", "[--/]": "-./", "[+--]": "+,-", "[+---]": "+,-", "[a-c--/]": "abc-./", "[!--]": "!\"#$%&'()*+,-", "[a-c--]": "abc-", "[%--a]": "%&'()*+,-a", "[ -~]": bytesOf(32, 126), "[\x00-\xff]": bytesOf(0, 255), "[\x80-\xff]": bytesOf(128, 255), "[\x7f-\x80]": "\x7f\x80", "[\xff-\xff]": "\xff",
		// backslashes
		`[\a\b\f\n\r\t\v]`: "\a\b\f\n\r\t\v", `[\]]`: "]", `[\\]`: `\`, `[\^]`: "^", `[\^a]`: "^a", `[a\-c]`: "a-c", `[\-]`: "-", `[\--/]`: "-./", `[+-\-]`: "+,-", `[\[]`: "[", `[\[:]`: "[:", `[\[=\[.]`: "[=.", `[a\]b]`: "a]b", `[\a-c]`: bytesOf(7, 'c'), `[\t-\r]`: "\t\n\v\f\r", `[\d]`: "d", `[\x41]`: "x41", `[\101]`: "10", `[\]-a]`: "]^_`a", `[\\-a]`: "\\]^_`a", `[Z-\]]`: `Z[\]`, `[Z-\\]`: `Z[\`, "[\\\x00]": "\x00", "[\\\xff]": "\xff", "[\\\n]": "\n", `[\.]`: ".", `[\a-\v]`: "\a\b\t\n\v", `[\]]]`: "", `[]\]]`: "]", `[\[-\]]`: `[\]`, `[\n-\n]`: "\n",
		// [ as a byte
		"[[]": "[", "[[a]": "[a", "[a[]": "a[", "[[[]": "[", "[[-]": "[-", "[[-^]": "[\\]^", "[+-[]": bytesOf('+', '['), "[[-[]": "[", "[[]]": "", "[[;:]": "[;:", "[:]": ":", "[:a]": ":a", "[:alpha:]": ":alph", "[=a=]": "=a", "[.a.]": ".a", "[a:]": "a:", "[=]": "=", "[.-:]": "./0123456789:", "[:-[]": ":;<=>?@" + greats + "[",
	} {
		if members == "" {
			continue // several trees: below
		}
		says(t, text, set(members))
		if text[1] != '^' {
			says(t, "[^"+text[1:], not(members))
		}
		says(t, "x"+text+"*", cat(set("x"), times(0, -1, set(members))))
	}
	says(t, "[]]a", cat(set("]"), set("a")))
	says(t, "[]-]a]", cat(set("]-"), set("a"), set("]")))
	says(t, `[\]]]`, cat(set("]"), set("]")))
	says(t, "[[]]", cat(set("["), set("]")))
	says(t, "[a]]", cat(set("a"), set("]")))
	says(t, "[a][b]", cat(set("a"), set("b")))
	says(t, "[a]{2}", times(2, 2, set("a")))
	says(t, "[a]|[b]", alt(set("a"), set("b")))
}

// P5.1: a bracket of all bytes but some.
func TestOtherBytes(t *testing.T) {
	for text, members := range map[string]string{
		"[^a]": "a", "[^^]": "^", "[^^a]": "^a", "[^]]": "]", "[^]a]": "]a", "[^-]": "-", "[^-a]": "-a", "[^a-]": "a-", "[^a-c]": "abc", `[^\^]`: "^", `[^\]]`: "]", `[^\n]`: "\n", "[^]-a]": "]^_`a", "[^^-a]": "^_`a", "[^--/]": "-./", "[^[]": "[", "[^\x00]": "\x00", "[^\xff]": "\xff", "[^[:digit:]]": digits, "[^[:digit:]-]": digits + "-",
	} {
		says(t, text, not(members))
	}
	says(t, "[^\x00-\xff]", set(""))
	says(t, "[^\x01-\xff]", set("\x00"))
	says(t, "[^\x00-\xfe]", set("\xff"))
	says(t, "[^]]]", cat(not("]"), set("]")))
	says(t, `[\^-a]`, set("^_`a"))
}

// P5.1: each class, and what a - behind one is.
func TestBracketClasses(t *testing.T) {
	classes := map[string]string{
		"alnum": digits + smalls + greats, "alpha": smalls + greats, "blank": "\t ", "cntrl": bytesOf(0, 31) + "\x7f", "digit": digits, "graph": bytesOf(33, 126),
		"lower": smalls, "print": bytesOf(32, 126), "punct": puncts, "space": "\t\n\v\f\r ", "upper": greats, "xdigit": digits + "abcdefABCDEF",
	}
	if len(classes) != len(modelClasses) {
		t.Error("a class is not tested")
	}
	for name, members := range classes {
		c := "[:" + name + ":]"
		says(t, "["+c+"]", set(members))
		says(t, "[^"+c+"]", not(members))
		says(t, "["+c+c+"]", set(members))
		says(t, "["+c+"\x80]", set(members+"\x80"))
		says(t, "[\xff"+c+"]", set(members+"\xff"))
		says(t, "["+c+"[:digit:]]", set(members+digits))
		says(t, "["+c+"-]", set(members+"-"))
		says(t, "[-"+c+"]", set(members+"-"))
		says(t, "["+c+"-\xff]", set(members+"-\xff"))
		says(t, "["+c+"-"+c+"]", set(members+"-"))
		says(t, "["+c+"--/]", set(members+"-./"))
		says(t, "[]"+c+"]", set(members+"]"))
		says(t, "[a-c"+c+"]", set(members+"abc"))
		says(t, "["+c+"a-c]", set(members+"abc"))
		says(t, "["+c+"]]", cat(set(members), set("]")))
		says(t, `[\`+c+"]", cat(set("[:"+name), set("]")))
		says(t, c, set(":"+name))
		fails(t, api.ErrPattern, "["+c, "[^"+c, "[[:"+name, "[[:"+name+":", "[[:"+name+"]", "[[:"+name+"]]", "[[:"+name+":a]]", "[[: "+name+":]]", "[[:"+name+" :]]", "[[:"+name[2:]+":]]", "[[:"+name[:len(name)-1]+":]]", "[[:"+name+"x:]]", "[[:^"+name+":]]", "[[:"+strings.ToUpper(name)+":]]", "[[:"+strings.ToUpper(name[:1])+name[1:]+":]]", "[[:"+name+"\x00:]]", `[[:\`+name+":]]", "[[="+name+"=]]", "[["+"."+name+".]]")
		// No class is an end of a range.
		fails(t, api.ErrPattern, "[\x00-"+c+"]", "[+-"+c+"]", "[a-"+c+"]", "[[-"+c+"]", "[\xff-"+c+"]")
	}
	says(t, "[[:alpha:][:digit:]_]", set(digits+smalls+greats+"_"))
	says(t, "[[:upper:]a-f]", set(greats+"abcdef"))
	says(t, "[[:space:][:cntrl:]]", set(bytesOf(0, 32)+"\x7f"))
}

// P5.1: brackets that may not be.
func TestWrongBrackets(t *testing.T) {
	fails(t, api.ErrPattern,
		"[", "[^", "[]", "[^]", "[a", "[^a", "[]a", "[^]a", "a[", "[a-", "[a-c", "[-", "[--", "[a]b[", "([)", "([a)", "[a|b", `[\`, `[a\`, `[\]`, `[a\]`, `[^\]`, `[]\]`, `[a-\`, `[a-\]`, "[[", "[]-", "[]-a", "[]-]a[", "[\x00", "[a]|[",
		"[b-a]", "[c-a]", "[a-`]", "[b-aa]", "[1-0]", "[\xff-\x00]", "[\xff-\xfe]", "[\x80-\x7f]", "[.--]", "[a--]", "[a--b]", "[a---]", "[xb-a]", "[^b-a]", "[]-A]", "[a-cc-b]", `[a-\n]`, `[\v-\n]`, `[a-\]]`, `[\]-\[]`, "[~-\x1f]", "[a-[]", "[a-c-e-d]",
		"[[:no:]]", "[[:]", "[[:]]", "[[::]]", "[[:a]", "[[:a:]", "[[:a:]]", "[[:a]]", "[a[:]", "[a[:]]", "[a[:no:]]", "[[:alpha:][:no:]]", "[[:alpha:]-[:no:]]", "[^[:]", "[][:]", "[[[:]", "[[:\xff:]]", "[[:word:]]", "[[:ascii:]]", "[[:", "[[:a", "[[:alpha:",
		"[[=a=]]", "[[=a=]", "[[=]", "[[=]]", "[[==]]", "[a[=]", "[^[=]", "[][=]", "[[=", "[[.a.]]", "[[.a.]", "[[.]", "[[.]]", "[[..]]", "[[.-.]]", "[a[.]", "[^[.]", "[][.]", "[[.", "[[.space.]]",
		"[+-[:]", "[+-[=]", "[+-[.]", "[+-[:]]", "[+-[=a=]]", "[+-[.a.]]", "[+-[:no:]]", "[[-[:]", "[[-[=]", "[[-[.]", "[a-[:digit:]]", "[a-[=]", "[a-[.]", "[--[.]", "[]-[.]")
}

// P5.3: the bracket of each set.
func TestShowBrackets(t *testing.T) {
	for _, x := range []struct {
		members, want string
	}{
		{"", "[^\x00-\xff]"}, {"ab", "[ab]"}, {"abc", "[a-c]"}, {"abcd", "[a-d]"}, {"ac", "[ac]"}, {"abd", "[abd]"}, {"abcx", "[a-cx]"}, {"xcba", "[a-cx]"}, {"abxy", "[abxy]"}, {"abcxyz", "[a-cx-z]"}, {"acegi", "[acegi]"}, {"axyz", "[ax-z]"},
		{digits, "[0-9]"}, {digits + smalls + greats + "_", "[0-9A-Z_a-z]"}, {" \t", "[\t ]"}, {"\x00\xff", "[\x00\xff]"}, {"\x00\x01", "[\x00\x01]"}, {"\xfe\xff", "[\xfe\xff]"}, {"\xfd\xfe\xff", "[\xfd-\xff]"}, {"\x00\x01\x02", "[\x00-\x02]"}, {"\x7f\x80", "[\x7f\x80]"}, {"?@A", "[?-A]"}, {"?@", "[?@]"}, {"\x7e\x7f\x80\x81", "[\x7e-\x81]"}, {"\xbf\xc0", "[\xbf\xc0]"}, {"\xbe\xbf\xc0", "[\xbe-\xc0]"},
		{`\`, `[\\]`}, {".", "[.]"}, {"^", `[\^]`}, {"$", "[$]"}, {"[", `[\[]`}, {"(", "[(]"}, {")", "[)]"}, {"|", "[|]"}, {"*", "[*]"}, {"+", "[+]"}, {"?", "[?]"}, {"{", "[{]"},
		{`\]`, `[\\\]]`}, {"]a", `[\]a]`}, {"[a", `[\[a]`}, {"^a", `[\^a]`}, {"-a", `[\-a]`}, {`\a`, `[\\a]`}, {"]^", `[\]\^]`}, {`[\]^`, `[\[-\^]`}, {`\]^_`, `[\\-_]`}, {`Z[\`, `[Z-\\]`}, {"XYZ[", `[X-\[]`}, {"]^_", `[\]-_]`}, {"^_`", "[\\^-`]"}, {"-./", `[\--/]`}, {",-", `[,\-]`}, {"+,-", `[+-\-]`}, {"-.", `[\-.]`}, {",-.", "[,-.]"}, {"*+,-./", "[*-/]"}, {`[\`, `[\[\\]`}, {`\]^[-`, `[\-\[-\^]`}, {"+-", `[+\-]`}, {"-a-", `[\-a]`}, {":[", `[:\[]`}, {"=[.", `[.=\[]`}, {":a", "[:a]"}, {"=a", "[=a]"}, {".a", "[.a]"}, {"a}", "[a}]"}, {"{}", "[{}]"}, {"a{", "[a{]"}, {"ab{", "[ab{]"}, {"!^", `[!\^]`}, {puncts, "[!-/:-@\\[-`{-~]"}, {"A-]", `[\-A\]]`}, {"A^-", `[\-A\^]`},
		{bytesOf(0, 127), "[\x00-\x7f]"}, {bytesOf(128, 255), "[\x80-\xff]"}, {bytesOf(1, 128), "[\x01-\x80]"}, {bytesOf(0, 126) + "\xff", "[\x00-~\xff]"},
		{bytesOf(0, 128), "[^\x81-\xff]"}, {bytesOf(127, 255), "[^\x00-~]"}, {bytesOf(1, 129), "[^\x00\x82-\xff]"}, {bytesOf(0, 127) + "\xff", "[^\x80-\xfe]"},
		{bytesOf(0, 253), "[^\xfe\xff]"}, {bytesOf(2, 255), "[^\x00\x01]"}, {bytesOf(3, 255), "[^\x00-\x02]"}, {bytesOf(0, 254), "[^\xff]"}, {bytesOf(1, 255), "[^\x00]"},
		{bytesOf(0, 255), "."}, {"a", "a"}, {"-", "-"}, {"]", "]"}, {"}", "}"}, {"\x00", "\x00"}, {"\xff", "\xff"}, {"\n", "\n"}, {" ", " "}, {",", ","},
	} {
		shows(t, x.want, set(x.members))
	}
	for _, x := range []struct {
		missing, want string
	}{
		{"a", "[^a]"}, {"ab", "[^ab]"}, {"abc", "[^a-c]"}, {"^", `[^\^]`}, {"]", `[^\]]`}, {"[", `[^\[]`}, {"-", `[^\-]`}, {`\`, `[^\\]`}, {`[\]^`, `[^\[-\^]`}, {"\n", "[^\n]"}, {".", "[^.]"}, {"{", "[^{]"}, {"^a", `[^\^a]`}, {"]a", `[^\]a]`}, {"-a", `[^\-a]`}, {digits, "[^0-9]"}, {digits + "x-", `[^\-0-9x]`}, {":", "[^:]"}, {"", "."},
	} {
		shows(t, x.want, not(x.missing))
	}
}

// P5.2, P5.3: each set of one byte, each of all but one, each run from one to
// another.
func TestShowRuns(t *testing.T) {
	for first := range 256 {
		b := string([]byte{byte(first)})
		alone, inner := b, b
		if strings.Contains(`\.^$[()|*+?{`, b) {
			alone = "[" + b + "]"
		}
		if strings.Contains(`\][^-`, b) {
			inner = `\` + b
		}
		if strings.Contains(`\^[`, b) {
			alone = "[" + inner + "]"
		}
		shows(t, alone, set(b))
		shows(t, "[^"+inner+"]", not(b))
		for last := first; last < 256; last++ {
			r := set(bytesOf(first, last))
			shows(t, modelShowSet(r.Set), r)
		}
	}
}

// P5.3: as many bytes as there may be, one between each two.
func TestShowHalves(t *testing.T) {
	var odd, even []byte
	for b := 0; b < 256; b += 2 {
		even, odd = append(even, byte(b)), append(odd, byte(b+1))
	}
	inner := func(bytes []byte) string {
		text := string(bytes)
		for _, sign := range []string{`\`, "]", "[", "^", "-"} {
			text = strings.ReplaceAll(text, sign, `\`+sign)
		}
		return text
	}
	shows(t, "["+inner(even)+"]", set(string(even)))
	shows(t, "["+inner(odd)+"]", set(string(odd)))
	// One more: what is missing is told.
	shows(t, "[^"+inner(odd[1:])+"]", set(string(even)+"\x01"))
	shows(t, "[^"+inner(even[1:])+"]", set(string(odd)+"\x00"))
	// One less.
	shows(t, "["+inner(odd[1:])+"]", set(string(odd[1:])))
	shows(t, "["+inner(even[:127])+"]", set(string(even[:127])))
}
