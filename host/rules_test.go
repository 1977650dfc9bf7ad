package host

import (
	"slices"
	"strings"
	"testing"
	"unsafe"

	"winnower/api"
)

// answers are what all calls of a host tell, one behind the other, without their
// errors, which are all to be one.
func answers(t *testing.T, h *Host, want api.Errno) {
	t.Helper()
	x, l := str("x"), list(str("x"))
	c, e1 := h.Get("NR")
	d, e2 := h.Field(num(0))
	e, e3 := h.Arith("+", x, x)
	f, e4 := h.Compare("<", x, x)
	g, e5 := h.Match(x, x)
	k, e6 := h.Call("rand", nil)
	for i, c := range []api.Cell{c, d, e, f, g, k} {
		if c != none() {
			t.Errorf("%d: %+v", i, c)
		}
	}
	ok, e7 := h.Next()
	n, line, e8 := h.Getline(1, none(), false)
	if ok || n != 0 || line != none() {
		t.Error(ok, n, line)
	}
	s, e9 := h.Text(x)
	key, e10 := h.Key(l)
	parts, e11 := h.Split(x, l)
	n, sub, e12 := h.Sub(x, x, x, true)
	if s != "" || key != "" || parts != nil || n != 0 || sub != "" {
		t.Error(s, key, parts, n, sub)
	}
	for i, err := range []api.Errno{e1, e2, e3, e4, e5, e6, e7, e8, e9, e10, e11, e12, h.Set("NR", x), h.SetField(num(0), x), h.Print(0, none(), l, false)} {
		if err != want {
			t.Errorf("%d: error %d; want %d", i, err, want)
		}
	}
}

// R5: of no host ErrNil, ahead of all other errors, and nothing is done.
func TestNoHost(t *testing.T) {
	h, w := hostOf(t, api.Script{Stdin: "a b\nc\n", Streams: 8})
	goesOn(t, h, "a b")
	are(t, h, "NF", 2)
	before := w.Trace()
	copied := *h
	overlaid := &Host{}
	*overlaid = *h
	emptied, _ := hostOf(t, api.Script{})
	*emptied = Host{}
	replaced, _ := hostOf(t, api.Script{})
	*replaced = *h
	for name, x := range map[string]*Host{"nil": nil, "zero": {}, "copied": &copied, "overlaid": overlaid, "emptied": emptied, "replaced": replaced} {
		answers(t, x, api.ErrNil)
		if n := x.Splits(); n != 0 {
			t.Errorf("of the host %s: %d splits", name, n)
		}
		x.End()
		isNot(t, x, "none", api.ErrNil)
		setsNot(t, x, "none", none(), api.ErrNil)
		setsNot(t, x, "NF", nan(), api.ErrNil)
		isNoField(t, x, nan(), api.ErrNil)
		setsNoField(t, x, nan(), none(), api.ErrNil)
		readsNot(t, x, 9, none(), true, api.ErrNil)
		printsNot(t, x, 9, none(), true, api.ErrNil)
		makesNot(t, x, "?", none(), none(), api.ErrNil)
		if c, err := x.Compare("?", none(), none()); c != none() || err != api.ErrNil {
			t.Error(c, err)
		}
		findsNot(t, x, none(), str(noPattern), api.ErrNil)
		callsNot(t, x, "?", api.ErrNil)
		splitsNot(t, x, none(), list(str(noPattern)), api.ErrNil)
		subsNot(t, x, str(noPattern), none(), none(), true, api.ErrNil)
		keyIsNot(t, x, api.ErrNil)
	}
	if !slices.Equal(w.Trace(), before) {
		t.Error(w.Trace())
	}
	goesOn(t, h, "c")
	are(t, h, "NR", 2)
}

// R1: an older value that is laid back over a host leaves one of which all calls
// end.
func TestLaidBack(t *testing.T) {
	h := handed(t, strings.Repeat("a:b\n\n", 500))
	goesOn(t, h, "a:b")
	old := *h
	sets(t, h, "FS", str(":"))
	goesOn(t, h, "")
	goesOn(t, h, "a:b")
	fieldsAre(t, h, "a", "b")
	finds(t, h, str("x"), str("[x]"), true)
	calls(t, h, "close", num(0), str("-"))
	*h = old
	for range 3 {
		h.Next()
		h.Field(num(1))
		h.Getline(1, none(), false)
		h.Getline(2, str("-"), false)
		finds(t, h, str("x"), str("[x]"), true)
		h.Call("close", list(str("-")))
	}
	h.End()
}

// R1: every call ends, whatever its cells are, and whatever the specials are.
func TestAllCells(t *testing.T) {
	all := someCells()
	for i, special := range specials() {
		for j, value := range all {
			h := handed(t, "a b\n\nc:d\n")
			h.Set(special, value)
			for k := range all {
				x, y, z := all[k], all[(k+i)%len(all)], all[(k+j)%len(all)]
				l := list(x, y, z)
				h.Next()
				h.Field(x)
				h.SetField(y, z)
				h.Field(num(0))
				h.Set(specials()[k%13], z)
				h.Get(specials()[k%13])
				for kind := range 4 {
					h.Print(kind, x, l[:k%4], k%2 == 0)
					h.Getline(kind, y, k%3 == 0)
				}
				h.Key(l)
				h.Match(x, y)
				h.Split(x, l[1:])
				h.Sub(x, y, z, true)
				for _, op := range []string{"+", "/", "%", "^"} {
					h.Arith(op, x, y)
				}
				h.Compare("<=", x, y)
				for name, count := range counts() {
					h.Call(name, l[:min(count[1], 3)])
				}
			}
			h.End()
		}
	}
}

// within says whether a text lies in the memory of another one.
func within(part, whole string) bool {
	if part == "" || whole == "" {
		return false
	}
	at, from := uintptr(unsafe.Pointer(unsafe.StringData(part))), uintptr(unsafe.Pointer(unsafe.StringData(whole)))
	return at >= from && at < from+uintptr(len(whole))
}

// R3: what is told shares no memory with what was handed in, nor with what is told
// another time.
func TestMemory(t *testing.T) {
	long := strings.Repeat("abc:", 50)
	own := func(what string, told string, others ...string) {
		t.Helper()
		for _, other := range others {
			if within(told, other) || within(other, told) {
				t.Errorf("%s: %s is of memory that stays", what, brief(told))
			}
		}
	}
	h := handed(t, "")
	for _, name := range specials() {
		if name != "NF" {
			sets(t, h, name, str(long))
			c, _ := h.Get(name)
			d, _ := h.Get(name)
			own(name, c.S, long, d.S)
		}
	}
	h = handed(t, "")
	setsField(t, h, num(0), str(long))
	c, _ := h.Field(num(0))
	d, _ := h.Field(num(0))
	own("record", c.S, long, d.S)
	setsField(t, h, num(3), str(long))
	c, _ = h.Field(num(3))
	d, _ = h.Field(num(3))
	own("field", c.S, long, d.S)
	s, _ := h.Text(str(long))
	own("Text", s, long)
	s, _ = h.Key(list(str(long)))
	own("Key", s, long)
	for _, repl := range []string{"", "&", "x"} {
		for _, pattern := range []string{"none", "abc", ".*", ""} {
			_, s, _ = h.Sub(str(pattern), str(repl), str(long), true)
			own("Sub", s, long, repl)
		}
	}
	for _, fs := range []string{":", "", "bc", "x"} {
		l, _ := h.Split(str(long), list(str(fs)))
		for _, s := range l {
			own("Split", s, long)
		}
	}
	for _, name := range []string{"tolower", "toupper", "sprintf"} {
		c, _ = h.Call(name, list(str(long)))
		own(name, c.S, long)
	}
	c, _ = h.Call("substr", list(str(long), num(1)))
	own("substr", c.S, long)
}

// R3: no list that is handed in is changed, nor its spare room.
func TestLists(t *testing.T) {
	h := handed(t, "a b\n")
	full := []api.Cell{str("%s %s"), str("x"), half(), str("y"), num(2), str("z")}
	before := slices.Clone(full)
	for n := range full {
		l := full[:n]
		h.Key(l)
		h.Print(0, none(), l, false)
		h.Print(1, str("f"), l, true)
		h.Split(str("a b"), l)
		for name := range counts() {
			h.Call(name, l)
		}
		if !slices.Equal(full, before) {
			t.Fatalf("%d: %+v", n, full)
		}
	}
}

// R3: what was handed in may be turned behind the call.
func TestListsAreNotKept(t *testing.T) {
	h := handed(t, "")
	l := list(str("%s"), str("x"))
	keyIs(t, h, "%s\x1cx", l...)
	prints(t, h, 0, none(), true, l...)
	l[1] = str("y")
	keyIs(t, h, "%s\x1cy", l...)
	calls(t, h, "sprintf", str("y"), l...)
}

// R2: at an error nothing has changed.
func TestErrorsChangeNothing(t *testing.T) {
	s := api.Script{Stdin: "a b\nc d\n", Files: files("f", "x\n"), Chance: 7, Clock: 3, Streams: 8}
	h, w := hostOf(t, s)
	goesOn(t, h, "a b")
	sets(t, h, "FS", half())
	sets(t, h, "CONVFMT", str(wrong))
	before := w.Trace()
	for range 2 {
		goesNotOn(t, h, api.ErrFormat)
		readsNot(t, h, 1, none(), false, api.ErrFormat)
		readsNot(t, h, 2, half(), false, api.ErrFormat)
		readsNot(t, h, 4, str("f"), false, api.ErrArg)
		setsNoField(t, h, num(0), str("z"), api.ErrFormat)
		setsNoField(t, h, num(0), half(), api.ErrFormat)
		setsNoField(t, h, num(-1), str("z"), api.ErrField)
		setsNot(t, h, "NF", num(-1), api.ErrField)
		setsNot(t, h, "none", str("z"), api.ErrArg)
		printsNot(t, h, 1, half(), false, api.ErrFormat, str("z"))
		printsNot(t, h, 1, str("o"), true, api.ErrFormat, str(wrong))
		printsNot(t, h, 4, str("o"), false, api.ErrArg, str("z"))
		callsNot(t, h, "srand", api.ErrArg, num(1), num(2))
		callsNot(t, h, "rand", api.ErrArg, num(1))
		callsNot(t, h, "match", api.ErrPattern, str("z"), str(noPattern))
		callsNot(t, h, "close", api.ErrFormat, half())
		callsNot(t, h, "system", api.ErrFormat, half())
		are(t, h, "NR", 1, "FNR", 1, "RSTART", 0, "RLENGTH", -1)
		is(t, h, "FS", half())
		wasSplit(t, h, 0)
		recordIs(t, h, "a b")
	}
	if !slices.Equal(w.Trace(), before) {
		t.Error(w.Trace())
	}
	calls(t, h, "srand", num(0))
	other := worldOf(t, s)
	calls(t, h, "rand", num(float64(other.Chance()>>11)/(1<<53)))
	sets(t, h, "FS", str(" "))
	fieldsAre(t, h, "a", "b")
	goesOn(t, h, "c d")
	isOver(t, h)
}

// R4: hosts on worlds of one script tell the same, whatever others do meanwhile.
func TestHostsAreApart(t *testing.T) {
	s := api.Script{Stdin: "a b\nc d\n", Chance: 5, Streams: 8}
	one, _ := hostOf(t, s)
	two, _ := hostOf(t, s)
	goesOn(t, one, "a b")
	sets(t, one, "FS", str(":"))
	sets(t, one, "NF", num(1))
	calls(t, one, "match", num(2), str("xyz"), str("y"))
	calls(t, one, "srand", num(0), num(9))
	goesOn(t, two, "a b")
	fieldsAre(t, two, "a", "b")
	are(t, two, "RSTART", 0, "NR", 1)
	calls(t, two, "srand", num(0))
	c, _ := one.Call("rand", nil)
	d, _ := two.Call("rand", nil)
	if c != d || c == none() {
		t.Error(c, d)
	}
}

// R7: a text is bytes: none is special but where the chapter says so.
func TestBytes(t *testing.T) {
	h := handed(t, "")
	for b := range 256 {
		s, x, y := string([]byte{byte(b)}), "x", "y"
		if s == x || s == y {
			x, y = "p", "q"
		}
		calls(t, h, "length", num(3), str(s+s+s))
		calls(t, h, "index", num(2), str(x+s), str(s))
		calls(t, h, "substr", str(s), str(x+s+y), num(2), num(1))
		keyIs(t, h, s+"\x1c"+s, str(s), str(s))
		setsField(t, h, num(0), str(x+s+y))
		recordIs(t, h, x+s+y)
		if s != " " {
			splits(t, h, str(x+s+y), list(str(s)), x, y)
		}
		if s != `\` && s != "&" {
			subs(t, h, str(x), str(s), str(y+x+y), true, 1, y+s+y)
		}
	}
}

// The examples of the chapter.
func TestExamples(t *testing.T) {
	h := handed(t, "a b\nc")
	goesOn(t, h, "a b")
	isField(t, h, num(2), str("b"))
	are(t, h, "NF", 2)
	setsField(t, h, num(5), str("x"))
	recordIs(t, h, "a b   x")
	goesOn(t, h, "c")
	are(t, h, "NR", 2)
	isOver(t, h)
	makes(t, h, "^", num(2), num(-2), num(0.25))
	makes(t, h, "%", num(-7), num(3), num(-1))
	makesNot(t, h, "/", num(1), num(0), api.ErrDivide)
	subs(t, h, str("b*"), str("X"), str("abc"), true, 3, "XaXcX")
	calls(t, h, "substr", str("he"), str("hello"), num(0), num(3))
	calls(t, h, "match", num(2), str("foobar"), str("o+"))
}
