package host

import (
	"math"
	"math/big"
	"strings"
	"testing"

	"winnower/api"
)

// P17.7: each builtin with each number of arguments, and names that are none's.
func TestArguments(t *testing.T) {
	names := []string{"split", "sub", "gsub", "", "x", "print", "printf", "getline", "Length", "length ", "lengt", "sin", "cos", "atan2", "exp", "log", "sqrt", "fflush", "NR", "substr\x00", "\xff"}
	for name := range counts() {
		names = append(names, name)
	}
	for _, name := range names {
		for n := range 7 {
			h, w := hostOf(t, api.Script{Stdin: "x\n", Clock: 7, Chance: 1, Streams: 2})
			least, most := 1, 0
			if count, ok := counts()[name]; ok {
				least, most = count[0], count[1]
			}
			args := make([]api.Cell, n)
			c, err := h.Call(name, args)
			if n >= least && n <= most {
				if err != api.OK || c == none() {
					t.Errorf("%s of %d arguments: %+v, %d", name, n, c, err)
				}
				continue
			}
			if c != none() || err != api.ErrArg {
				t.Errorf("%s of %d arguments: %+v, %d", name, n, c, err)
			}
			// It counts ahead of what has no text.
			sets(t, h, "CONVFMT", str(wrong))
			for i := range args {
				args[i] = half()
			}
			callsNot(t, h, name, api.ErrArg, args...)
			calls(t, h, "srand", num(0))
			are(t, h, "RLENGTH", -1)
			traced(t, w)
		}
	}
}

// P17.7: what has no text.
func TestCallWithoutText(t *testing.T) {
	h, w := hostOf(t, api.Script{Streams: 2})
	sets(t, h, "CONVFMT", str(wrong))
	for _, name := range []string{"length", "tolower", "toupper", "close", "system", "sprintf"} {
		callsNot(t, h, name, api.ErrFormat, half())
		callsNot(t, h, name, api.ErrFormat, nan())
	}
	for _, name := range []string{"index", "match"} {
		callsNot(t, h, name, api.ErrFormat, half(), str("x"))
		callsNot(t, h, name, api.ErrFormat, str("x"), half())
		callsNot(t, h, name, api.ErrFormat, half(), str(noPattern))
	}
	callsNot(t, h, "substr", api.ErrFormat, half(), num(1))
	callsNot(t, h, "substr", api.ErrFormat, half(), nan(), nan())
	callsNot(t, h, "sprintf", api.ErrFormat, str("%s"), half())
	callsNot(t, h, "sprintf", api.ErrFormat, str("%d%s"), half(), num(inf))
	// Numbers have none to be asked for.
	calls(t, h, "int", num(0), half())
	calls(t, h, "substr", str("bc"), str("abc"), num(1.5), num(2.5))
	calls(t, h, "sprintf", str("0.50"), str("%.2f"), half())
	calls(t, h, "srand", num(0), half())
	calls(t, h, "srand", num(0.5), num(1))
	// $0.
	setsField(t, h, num(1), half())
	callsNot(t, h, "length", api.ErrFormat)
	setsField(t, h, num(1), str("x"))
	sets(t, h, "OFS", half())
	callsNot(t, h, "length", api.ErrFormat)
	traced(t, w)
	// The first one's error counts.
	sets(t, h, "CONVFMT", str("%*d"+strings.Repeat("%4096d", 256)))
	for _, name := range []string{"index", "match"} {
		callsNot(t, h, name, api.ErrLong, half(), num(5000.5))
		callsNot(t, h, name, api.ErrFormat, num(5000.5), half())
	}
}

// P17.7: length.
func TestLength(t *testing.T) {
	h := recordOf(t, "a  bc", " ")
	calls(t, h, "length", num(5))
	calls(t, h, "length", num(0), none())
	calls(t, h, "length", num(0), str(""))
	calls(t, h, "length", num(4), num(12.5))
	calls(t, h, "length", num(3), str("a\x00\xff"))
	calls(t, h, "length", num(4), str("\u00e9\u00e9"))
	calls(t, h, "length", num(4), strNum(" 12 ", 12))
	sets(t, h, "CONVFMT", str("%.3f"))
	calls(t, h, "length", num(6), num(12.5))
	wasSplit(t, h, 0)
	setsField(t, h, num(4), str("d"))
	sets(t, h, "OFS", str("---"))
	calls(t, h, "length", num(13))
	recordIs(t, h, "a---bc------d")
	calls(t, h, "length", num(1<<20), str(strings.Repeat("x", 1<<20)))
}

// P17.7: index.
func TestIndex(t *testing.T) {
	h := handed(t, "")
	for _, x := range []struct {
		s, t api.Cell
		want float64
	}{
		{str("banana"), str("an"), 2}, {str("banana"), str("banana"), 1}, {str("banana"), str("bananas"), 0}, {str("banana"), str("x"), 0}, {str("banana"), str(""), 0}, {none(), none(), 0}, {str(""), str("a"), 0}, {str("a.b"), str("."), 2}, {num(1234), num(34), 3}, {num(12.5), str("."), 3}, {str("x12"), strNum("12", 12), 2}, {str("a\x00b"), str("\x00b"), 2},
	} {
		calls(t, h, "index", num(x.want), x.s, x.t)
	}
	are(t, h, "RSTART", 0, "RLENGTH", -1)
}

// P17.7: substr, with what is beyond the text on both sides.
func TestSubstr(t *testing.T) {
	h := handed(t, "")
	hello := str("hello")
	for _, x := range []struct {
		from, n, want api.Cell
	}{
		{num(2), num(3), str("ell")}, {num(0), num(3), str("he")}, {num(-1), num(3), str("h")}, {num(-2), num(3), str("")}, {num(1), num(5), str("hello")}, {num(1), num(6), str("hello")}, {num(5), num(1), str("o")}, {num(6), num(1), str("")}, {num(1), num(0), str("")}, {num(1), num(-1), str("")}, {num(9), num(1), str("")}, {num(2), num(inf), str("ello")}, {num(-inf), num(inf), str("")}, {num(-inf), num(3), str("")}, {num(inf), num(3), str("")}, {num(2), num(-inf), str("")}, {num(inf), num(-inf), str("")},
		// Halves.
		{num(1.5), num(1), str("e")}, {num(1.4999), num(1), str("h")}, {num(2.5), num(1), str("l")}, {num(0.5), num(1), str("h")}, {num(-0.5), num(2), str("h")}, {num(-0.51), num(2), str("")}, {num(-1.5), num(3), str("h")}, {num(1), num(1.5), str("he")}, {num(1), num(0.5), str("h")}, {num(1), num(0.49), str("")}, {num(1.5), num(1.5), str("el")}, {num(0.4), num(1.5), str("h")},
		{num(math.Nextafter(0.5, 0)), num(1), str("")}, {num(1), num(math.Nextafter(0.5, 0)), str("")}, {num(math.Nextafter(1.5, 0)), num(1), str("h")}, {num(math.Nextafter(-0.5, -1)), num(2), str("")}, {num(-5e-324), num(2), str("h")}, {num(nought), num(2), str("h")},
		// Beyond 10^12.
		{num(-1e12), num(1e12 + 3), str("")}, {num(-1e12), num(2e12), str("")}, {num(-1e12 - 9), num(1e13), str("")}, {num(-1e11), num(1e11 + 3), str("he")}, {num(-1e12 + 2), num(1e12), str("h")}, {num(-1e12 + 4), num(1e300), str("hel")}, {num(1), num(1e12), str("hello")}, {num(3), num(1e300), str("llo")}, {num(1e12), num(1e12), str("")}, {num(1e300), num(-1e300), str("")}, {num(math.MaxFloat64), num(math.MaxFloat64), str("")}, {num(1 << 32), num(5), str("")}, {num(1<<32 + 1), num(5), str("")}, {num(1), num(1<<32 + 1), str("hello")}, {num(2 - 1<<32), num(1 << 32), str("h")},
		{nan(), num(3), str("")}, {num(1), nan(), str("")}, {nan(), nan(), str("")},
		{none(), str("3x"), str("he")}, {str("2"), strNum(" 2 ", 2), str("el")}, {str("x"), str("y"), str("")},
	} {
		calls(t, h, "substr", x.want, hello, x.from, x.n)
	}
	for _, x := range []struct{ from, want api.Cell }{
		{num(1), hello}, {num(2), str("ello")}, {num(5), str("o")}, {num(6), str("")}, {num(7), str("")}, {num(0), hello}, {num(-3), hello}, {num(1.5), str("ello")}, {num(1.49), hello}, {num(2.5), str("llo")}, {num(-inf), hello}, {num(inf), str("")}, {num(-1e300), hello}, {num(-1e12), hello}, {num(1e12), str("")}, {num(1e300), str("")}, {nan(), str("")}, {none(), hello}, {str("4th"), str("lo")}, {num(1<<32 + 1), str("")}, {num(1<<64 + 2), str("")},
	} {
		calls(t, h, "substr", x.want, hello, x.from)
	}
	calls(t, h, "substr", str("2.5"), num(12.5), num(2))
	calls(t, h, "substr", str("12"), strNum("123", 123), num(1), num(2))
	calls(t, h, "substr", str(""), none(), num(1))
	calls(t, h, "substr", str("\x00\xff"), str("a\x00\xffb"), num(2), num(2))
	long := strings.Repeat("0123456789", 100000)
	calls(t, h, "substr", str(long[12345:67890]), str(long), num(12346), num(67890-12345))
}

// nearest tells the greatest whole number up to a number and a half, without an
// end, and at most 10^12 on both sides.
func nearest(f float64) int {
	switch {
	case f > 1e12:
		return 1e12
	case f < -1e12:
		return -1e12
	}
	twice := new(big.Rat).SetFloat64(f)
	twice.Add(twice, big.NewRat(1, 2))
	// Div goes down, of what is below 0, too.
	return int(new(big.Int).Div(twice.Num(), twice.Denom()).Int64())
}

// P17.7: substr's places are those of whole numbers, exactly.
func TestSubstrExactly(t *testing.T) {
	h := handed(t, "")
	var places []float64
	for i := -3; i <= 7; i++ {
		for _, f := range []float64{float64(i), float64(i) + 0.25, float64(i) + 0.5} {
			places = append(places, f, math.Nextafter(f, -9), math.Nextafter(f, 9))
		}
	}
	places = append(places, 1e12, 1e12-0.5, 1e12+0.5, -1e12, -1e12+0.5, -1e12-0.5, 1e15, -1e15, 1e300, -1e300, inf, -inf)
	const text = "abcd"
	for _, a := range places {
		for _, b := range places {
			for _, third := range []bool{false, true} {
				args := []api.Cell{str(text), num(a)}
				from := nearest(a)
				to := len(text) + 1
				if third {
					args = append(args, num(b))
					to = from + nearest(b)
				}
				want := ""
				for at := 1; at <= len(text); at++ {
					if at >= from && at < to {
						want += text[at-1 : at]
					}
				}
				calls(t, h, "substr", str(want), args...)
			}
		}
	}
}

// P17.7: match, with RSTART and RLENGTH behind it.
func TestCallMatch(t *testing.T) {
	h := handed(t, "")
	for _, x := range []struct {
		text, pattern string
		at, n         int
	}{
		{"foobar", "o+", 2, 2}, {"foobar", "x", 0, -1}, {"foobar", "", 1, 0}, {"", "", 1, 0}, {"", "x", 0, -1}, {"foobar", "$", 7, 0}, {"foobar", "r$", 6, 1}, {"foobar", "^f", 1, 1}, {"abcd", "(a|ab)(c|bcd)(d*)", 1, 4}, {"xaaay", "a*", 1, 0}, {"xaaay", "a*y", 2, 4}, {"a\n\x00", "\x00", 3, 1},
	} {
		for range 2 {
			calls(t, h, "match", num(float64(x.at)), str(x.text), str(x.pattern))
			are(t, h, "RSTART", x.at, "RLENGTH", x.n)
		}
	}
	calls(t, h, "match", num(3), num(12345), num(34))
	are(t, h, "RSTART", 3, "RLENGTH", 2)
	// At an error they stay.
	callsNot(t, h, "match", api.ErrPattern, str("x"), str(noPattern))
	callsNot(t, h, "match", api.ErrLong, str("x"), str("((a{255}){255})"))
	sets(t, h, "CONVFMT", str(wrong))
	callsNot(t, h, "match", api.ErrFormat, half(), str("x"))
	are(t, h, "RSTART", 3, "RLENGTH", 2)
	sets(t, h, "RSTART", str("x"))
	sets(t, h, "RLENGTH", str("y"))
	calls(t, h, "match", num(0), str("x"), str("y"))
	are(t, h, "RSTART", 0, "RLENGTH", -1)
}

// P17.7: sprintf.
func TestSprintf(t *testing.T) {
	h := handed(t, "")
	sets(t, h, "OFMT", str(wrong))
	for _, x := range []struct {
		want string
		args []api.Cell
	}{
		{"", list(none())}, {"a\n", list(str("a\n"))}, {"007|x", list(str("%03d|%s"), num(7), str("x"))}, {"12", list(num(12))}, {"|0|", list(str("%s|%d|"))}, {"x", list(str("x"), num(1), num(2))}, {"0.25", list(str("%s"), num(0.25))}, {"   7%A", list(str("%*d%%%c"), num(4), num(7), num(65))},
	} {
		calls(t, h, "sprintf", str(x.want), x.args...)
	}
	// What it tells is a text, even if it looks like a number.
	calls(t, h, "sprintf", str("12"), str("%d"), num(12))
	sets(t, h, "CONVFMT", str("%.1f"))
	calls(t, h, "sprintf", str("0.2"), str("%s"), num(0.25))
	calls(t, h, "sprintf", str("0.2"), num(0.25))
	for _, format := range []string{"%z", "%", "a%5", "x%4097d"} {
		callsNot(t, h, "sprintf", api.ErrFormat, str(format), num(1))
	}
	callsNot(t, h, "sprintf", api.ErrLong, str(strings.Repeat("%4096d", 257)))
	args := []api.Cell{str(strings.Repeat("%d,", 2000))}
	for range 2000 {
		args = append(args, num(7))
	}
	calls(t, h, "sprintf", str(strings.Repeat("7,", 2000)), args...)
}

// P17.7: letters that are turned.
func TestLetters(t *testing.T) {
	h := handed(t, "")
	var all []byte
	for b := range 256 {
		all = append(all, byte(b))
	}
	lower, upper := append([]byte(nil), all...), append([]byte(nil), all...)
	for b := range 26 {
		lower['A'+b], upper['a'+b] = byte('a'+b), byte('A'+b)
	}
	calls(t, h, "tolower", str(string(lower)), str(string(all)))
	calls(t, h, "toupper", str(string(upper)), str(string(all)))
	calls(t, h, "tolower", str(""), none())
	calls(t, h, "toupper", str("12.5"), num(12.5))
	calls(t, h, "toupper", str("1E+20"), num(1e20))
	calls(t, h, "tolower", str(" 1e5 "), strNum(" 1E5 ", 1e5))
}

// P17.7: int.
func TestInt(t *testing.T) {
	h := handed(t, "")
	for _, x := range []struct{ c, want api.Cell }{
		{num(3.7), num(3)}, {num(-3.7), num(-3)}, {num(0), num(0)}, {num(nought), num(0)}, {num(-0.5), num(0)}, {num(0.5), num(0)}, {num(-5e-324), num(0)}, {num(math.Nextafter(1, 0)), num(0)}, {num(-1), num(-1)}, {num(1e300), num(1e300)}, {num(1<<52 + 0.5), num(1 << 52)}, {num(-1 << 63), num(-1 << 63)}, {num(inf), num(inf)}, {num(-inf), num(-inf)}, {nan(), nan()}, {api.Cell{Kind: api.Num, N: 0xfff0000000000001}, nan()}, {none(), num(0)}, {str("-7.9x"), num(-7)}, {str("x"), num(0)}, {str("-0"), num(0)}, {strNum(" 2.5 ", 2.5), num(2)}, {strNum("-0", nought), num(0)},
	} {
		calls(t, h, "int", x.want, x.c)
	}
}

// P17.7: srand tells the seed ahead of the one that it sets.
func TestSrand(t *testing.T) {
	h, w := hostOf(t, api.Script{Clock: 7})
	calls(t, h, "srand", num(0))
	calls(t, h, "srand", num(7))
	calls(t, h, "srand", num(7), num(4.5))
	calls(t, h, "srand", num(4.5), str("12x"))
	calls(t, h, "srand", num(12), none())
	calls(t, h, "srand", num(0), num(-inf))
	calls(t, h, "srand", num(-inf), nan())
	calls(t, h, "srand", nan(), num(nought))
	calls(t, h, "srand", num(nought))
	calls(t, h, "srand", num(7))
	traced(t, w)
	for _, clock := range []int{-1, 0, 1 << 40} {
		h, _ = hostOf(t, api.Script{Clock: clock})
		calls(t, h, "srand", num(0))
		calls(t, h, "srand", num(float64(clock)))
	}
}

// P17.7: rand tells the world's numbers of chance, whatever the seed is.
func TestRand(t *testing.T) {
	for _, chance := range []uint64{0, 1, 2047, 2048, 1 << 63, 1<<64 - 1, 1<<64 - 2048, 0x123456789abcdef0} {
		h, _ := hostOf(t, api.Script{Chance: chance})
		other := worldOf(t, api.Script{Chance: chance})
		for i := range 1000 {
			want := float64(other.Chance()>>11) / (1 << 53)
			if want < 0 || want >= 1 {
				t.Fatal(want)
			}
			calls(t, h, "rand", num(want))
			if i%3 == 0 {
				h.Call("srand", []api.Cell{num(1)})
			}
		}
	}
	h, _ := hostOf(t, api.Script{Chance: 1<<64 - 1})
	calls(t, h, "rand", num(1-0x1p-53))
	h, _ = hostOf(t, api.Script{Chance: 3 << 62})
	calls(t, h, "rand", num(0.75))
}

// P17.7: close, of what is open as several kinds.
func TestClose(t *testing.T) {
	s := api.Script{Files: files("f", "a\n", "12", "b\n"), Replies: []api.Reply{{Command: "f", Output: "c\n", Status: 3}, {Command: "neg", Status: -1}, {Command: "12", Status: 300}}, Streams: 8}
	h, w := hostOf(t, s)
	for _, c := range []api.Cell{str("f"), none(), num(12), str("-"), str("")} {
		calls(t, h, "close", num(-1), c)
	}
	traced(t, w)
	prints(t, h, 3, str("f"), false, str("x"))
	prints(t, h, 2, str("f"), false, str("y"))
	reads(t, h, 3, str("f"), true, 1, str("c"))
	reads(t, h, 2, str("f"), true, 1, str("a"))
	prints(t, h, 1, str("g"), false, str("z"))
	calls(t, h, "close", num(3), str("f"))
	calls(t, h, "close", num(-1), str("f"))
	if n := w.Streams(); n != 1 {
		t.Error(n)
	}
	calls(t, h, "close", num(0), str("g"))
	prints(t, h, 3, str("neg"), false, str("x"))
	calls(t, h, "close", num(-1), str("neg"))
	calls(t, h, "close", num(-1), str("neg"))
	prints(t, h, 3, num(12), false, str("x"))
	calls(t, h, "close", num(300), strNum("12", 12))
	l := w.Trace()
	var closings []api.Event
	for _, e := range l {
		if e.Kind == api.EvClose {
			closings = append(closings, e)
		}
	}
	want := []api.Event{closed(api.InFile, "f", 0), closed(api.InPipe, "f", 3), closed(api.OutAppend, "f", 0), closed(api.OutPipe, "f", 3), closed(api.OutFile, "g", 0), closed(api.OutPipe, "neg", -1), closed(api.OutPipe, "12", 300)}
	if len(closings) != len(want) {
		t.Fatal(closings)
	}
	for i := range want {
		if closings[i] != want[i] {
			t.Error(closings[i], want[i])
		}
	}
}

// P17.7: system, with a reply, without one, and failing.
func TestSystem(t *testing.T) {
	h, w := hostOf(t, api.Script{Replies: []api.Reply{{Command: "c", Output: "x", Status: 3}, {Command: "12", Status: -5}, {Command: "shut", Status: 6}}, Fails: []api.Fail{{Op: 4, Name: "shut"}, {Op: 1, Name: "c"}}, Streams: 1})
	calls(t, h, "system", num(3), str("c"))
	calls(t, h, "system", num(127), str("d"))
	calls(t, h, "system", num(-1), str("shut"))
	calls(t, h, "system", num(-5), num(12))
	calls(t, h, "system", num(127), none())
	traced(t, w, ran("c", 3), ran("d", 127), ran("12", -5), ran("", 127))
}
