package arrays

import (
	"slices"
	"strings"
	"testing"

	"winnower/api"
)

// The chapter's examples.
func TestExamples(t *testing.T) {
	a := New()
	sets(t, a, "b", num(1))
	sets(t, a, "a", num(2))
	gets(t, a, "c", api.Cell{})
	sets(t, a, "b", num(3))
	keys(t, a, "b", "a", "c")
	deletes(t, a, "b", true)
	sets(t, a, "b", num(4))
	keys(t, a, "a", "c", "b")
	isKey(t, []string{"1", "2"}, "-", "1-2")
	isKey(t, nil, "-", "")
}

// P9.1: a new array has no keys, and is no other one.
func TestNew(t *testing.T) {
	a, b := New(), New()
	keys(t, a)
	for _, key := range someKeys() {
		hasNot(t, a, key)
		deletes(t, a, key, false)
	}
	sets(t, a, "x", num(1))
	keys(t, b)
	keys(t, New())
}

func isKey(t *testing.T, l []string, subsep, want string) {
	t.Helper()
	if got := Key(l, subsep); got != want {
		t.Errorf("Key(%q, %q) = %q; want %q", l, subsep, got, want)
	}
}

// P9.1: a key of texts is these, with subsep between each two.
func TestKey(t *testing.T) {
	for _, x := range []struct {
		l            []string
		subsep, want string
	}{
		{nil, "", ""}, {nil, "\x1c", ""}, {[]string{}, "-", ""},
		{[]string{""}, "-", ""}, {[]string{"a"}, "-", "a"}, {[]string{"a"}, "", "a"}, {[]string{"-"}, "-", "-"},
		{[]string{"", ""}, "-", "-"}, {[]string{"", ""}, "", ""}, {[]string{"", "", ""}, "-", "--"}, {[]string{"", "", ""}, "ab", "abab"},
		{[]string{"a", "b"}, "", "ab"}, {[]string{"a", "b"}, "\x1c", "a\x1cb"}, {[]string{"a", ""}, "-", "a-"}, {[]string{"", "a"}, "-", "-a"},
		{[]string{"a", "b", "c"}, "-", "a-b-c"}, {[]string{"a", "b", "c", "d"}, "", "abcd"}, {[]string{"c", "b", "a"}, ", ", "c, b, a"}, {[]string{"a", "a", "a"}, "a", "aaaaa"},
		{[]string{"a-b", "c"}, "-", "a-b-c"}, {[]string{"a", "b-c"}, "-", "a-b-c"}, {[]string{"-", "-"}, "-", "---"}, {[]string{"--", ""}, "--", "----"},
		{[]string{"\x00", "\xff"}, "\xc3", "\x00\xc3\xff"}, {[]string{"\xc3", "\xa9"}, "", "é"}, {[]string{"a", "b"}, "\x00", "a\x00b"}, {[]string{"a", "b"}, "%s", "a%sb"},
	} {
		isKey(t, x.l, x.subsep, x.want)
	}
	many := strings.Split(strings.Repeat("ab,", 1000)+"ab", ",")
	isKey(t, many, "\x1c", strings.Repeat("ab\x1c", 1000)+"ab")
	isKey(t, many, "", strings.Repeat("ab", 1001))
	long := strings.Repeat("x", 1<<20)
	isKey(t, []string{long, "y", long}, long, long+long+"y"+long+long)
}

// P9.1: of all short texts of some bytes, what the words say.
func TestKeyAll(t *testing.T) {
	texts := []string{"", "-", "a", "-a", "a-", "--"}
	for _, subsep := range texts {
		for _, a := range texts {
			isKey(t, []string{a}, subsep, a)
			for _, b := range texts {
				isKey(t, []string{a, b}, subsep, a+subsep+b)
				for _, c := range texts {
					isKey(t, []string{a, b, c}, subsep, a+subsep+b+subsep+c)
				}
			}
		}
	}
}

// P9.1: what is set is told, whatever the key and the cell are, and told alike
// each time.
func TestSet(t *testing.T) {
	all := someKeys()
	a := New()
	for i, key := range all {
		sets(t, a, key, num(i))
		keys(t, a, all[:i+1]...)
	}
	for range 2 {
		for i, key := range all {
			gets(t, a, key, num(i))
			has(t, a, key, num(i))
		}
		keys(t, a, all...)
	}
}

// P9.1: a cell is laid down as it is, right or not, and over any other one.
func TestSetCells(t *testing.T) {
	a := filled(t, "a", "k", "b")
	for _, c := range someCells() {
		for _, d := range someCells()[:20] {
			sets(t, a, "k", c)
			sets(t, a, "k", d)
			gets(t, a, "k", d)
			sets(t, a, "k", c)
			has(t, a, "k", c)
			gets(t, a, "k", c)
		}
	}
	keys(t, a, "a", "k", "b")
	has(t, a, "a", num(1))
	has(t, a, "b", num(3))
}

// P9.1: a key that was asked for by Get is there from then on, the last, with
// the cell Uninit.
func TestGetMakes(t *testing.T) {
	a := filled(t, "b", "a")
	gets(t, a, "", api.Cell{})
	keys(t, a, "b", "a", "")
	has(t, a, "", api.Cell{})
	gets(t, a, "", api.Cell{})
	gets(t, a, "A", api.Cell{})
	keys(t, a, "b", "a", "", "A")
	gets(t, a, "b", num(1))
	gets(t, a, "a", num(2))
	keys(t, a, "b", "a", "", "A")
	sets(t, a, "", num(7))
	gets(t, a, "", num(7))
	keys(t, a, "b", "a", "", "A")
	deletes(t, a, "A", true)
	hasNot(t, a, "A")

	a = New()
	all := someKeys()
	for i, key := range all {
		gets(t, a, key, api.Cell{})
		keys(t, a, all[:i+1]...)
	}
}

// P9.1: Peek and Has of a key that is not there leave nothing behind.
func TestPeekMakesNone(t *testing.T) {
	a := filled(t, "b", "a")
	for _, key := range someKeys() {
		if key != "a" && key != "b" {
			hasNot(t, a, key)
			hasNot(t, a, key)
		}
	}
	keys(t, a, "b", "a")
	has(t, a, "b", num(1))
	has(t, a, "a", num(2))
	// A key that is there with Uninit is told from one that is not.
	sets(t, a, "u", api.Cell{})
	has(t, a, "u", api.Cell{})
	hasNot(t, a, "v")
}

// P9.1, P9.3: what is done to one key turns no other one, be one of them the
// beginning of the other.
func TestKeysApart(t *testing.T) {
	all := someKeys()
	for i, key := range all {
		a := filled(t, all...)
		sets(t, a, key, num(-1))
		for j, other := range all {
			if i != j {
				has(t, a, other, num(j+1))
			}
		}
		keys(t, a, all...)
		deletes(t, a, key, true)
		hasNot(t, a, key)
		for j, other := range all {
			if i != j {
				has(t, a, other, num(j+1))
			}
		}
		keys(t, a, slices.Concat(all[:i], all[i+1:])...)
	}
}

// P9.3: a key that is set again stays where it is.
func TestSetAgain(t *testing.T) {
	for _, key := range []string{"a", "b", "c"} {
		a := filled(t, "a", "b", "c")
		sets(t, a, key, num(7))
		sets(t, a, key, num(8))
		keys(t, a, "a", "b", "c")
		has(t, a, key, num(8))
	}
	a := filled(t, "a")
	sets(t, a, "a", api.Cell{})
	has(t, a, "a", api.Cell{})
	keys(t, a, "a")
}

// P9.2: whether there was a key; it is not there any more.
func TestDelete(t *testing.T) {
	for _, key := range []string{"a", "b", "c", "d"} {
		a := filled(t, "a", "b", "c", "d")
		deletes(t, a, key, true)
		hasNot(t, a, key)
		deletes(t, a, key, false)
		hasNot(t, a, key)
		keys(t, a, slices.DeleteFunc([]string{"a", "b", "c", "d"}, func(s string) bool { return s == key })...)
		// P9.3: one that comes again is the last, and has nothing of old.
		gets(t, a, key, api.Cell{})
		if l := a.Keys(); l[3] != key || len(l) != 4 {
			t.Errorf("Keys() = %q, where %q came last", l, key)
		}
		deletes(t, a, key, true)
		sets(t, a, key, num(9))
		has(t, a, key, num(9))
		if l := a.Keys(); l[3] != key || len(l) != 4 {
			t.Errorf("Keys() = %q, where %q came last", l, key)
		}
	}
	a := filled(t, "a")
	deletes(t, a, "", false)
	deletes(t, a, "A", false)
	deletes(t, a, "aa", false)
	keys(t, a, "a")
	deletes(t, a, "a", true)
	keys(t, a)
	sets(t, a, "b", num(2))
	keys(t, a, "b")
	// The empty key is one as any.
	sets(t, a, "", num(3))
	deletes(t, a, "", true)
	deletes(t, a, "", false)
	hasNot(t, a, "")
	keys(t, a, "b")
	// A key with the cell Uninit was there, too.
	gets(t, a, "u", api.Cell{})
	deletes(t, a, "u", true)
}

// P9.2: Clear leaves no key, and the array is as a new one.
func TestClear(t *testing.T) {
	a := filled(t, "b", "a", "")
	b := a.Copy()
	old := a.Keys()
	a.Clear()
	keys(t, a)
	for _, key := range []string{"a", "b", "", "c"} {
		hasNot(t, a, key)
		deletes(t, a, key, false)
	}
	a.Clear()
	keys(t, a)
	gets(t, a, "a", api.Cell{})
	sets(t, a, "b", num(7))
	keys(t, a, "a", "b")
	has(t, a, "b", num(7))
	a.Clear()
	sets(t, a, "c", num(8))
	keys(t, a, "c")
	keys(t, b, "b", "a", "")
	has(t, b, "b", num(1))
	if !slices.Equal(old, []string{"b", "a", ""}) {
		t.Errorf("an older list of keys is %q", old)
	}
	New().Clear()
}

// P9.2: Keys in memory of their own: nothing that is done to a list, or to the
// array behind it, turns the other.
func TestKeysAreOwn(t *testing.T) {
	a := filled(t, "a", "b", "c")
	l, m := a.Keys(), a.Keys()
	l[0], l[1], l[2] = "x", "y", "z"
	_ = append(l[:1], "v", "w")
	keys(t, a, "a", "b", "c")
	has(t, a, "b", num(2))
	if !slices.Equal(m, []string{"a", "b", "c"}) {
		t.Errorf("another list is %q", m)
	}
	sets(t, a, "d", num(4))
	deletes(t, a, "a", true)
	gets(t, a, "e", api.Cell{})
	a.Clear()
	sets(t, a, "f", num(6))
	if !slices.Equal(m, []string{"a", "b", "c"}) {
		t.Errorf("an older list is %q", m)
	}
	l = a.Keys()
	_ = append(l, "x")
	sets(t, a, "g", num(7))
	keys(t, a, "f", "g")
}

// P9.2: what is done to one of an array and its copy does not turn the other.
func TestCopy(t *testing.T) {
	change := func(x *Array) {
		sets(t, x, "a", num(10))
		sets(t, x, "d", num(11))
		gets(t, x, "e", api.Cell{})
		deletes(t, x, "b", true)
		sets(t, x, "b", num(12))
		deletes(t, x, "c", true)
	}
	asItWas := func(x *Array) {
		t.Helper()
		keys(t, x, "a", "b", "c")
		for i, key := range []string{"a", "b", "c"} {
			has(t, x, key, num(i+1))
		}
		hasNot(t, x, "d")
		hasNot(t, x, "e")
	}
	changed := func(x *Array) {
		t.Helper()
		keys(t, x, "a", "d", "e", "b")
		for i, key := range []string{"a", "d"} {
			has(t, x, key, num(i+10))
		}
		has(t, x, "e", api.Cell{})
		has(t, x, "b", num(12))
		hasNot(t, x, "c")
	}
	a := filled(t, "a", "b", "c")
	b := a.Copy()
	c := b.Copy()
	if a == b || b == c {
		t.Error("a copy is the array itself")
	}
	asItWas(b)
	asItWas(c)
	change(b)
	changed(b)
	asItWas(a)
	asItWas(c)
	change(a)
	changed(a)
	b.Clear()
	keys(t, b)
	changed(a)
	asItWas(c)
	change(c)
	changed(c)
	a.Clear()
	changed(c)
	d := c.Copy()
	c.Clear()
	changed(d)
}

// P9.2: a copy of an array of no keys is an array; it has all cells as they are.
func TestCopyOfFew(t *testing.T) {
	a := New()
	b := a.Copy()
	keys(t, b)
	sets(t, b, "x", num(1))
	keys(t, a)
	keys(t, b, "x")
	deletes(t, b, "x", true)
	keys(t, b.Copy())
	keys(t, a.Copy().Copy().Copy())

	a = New()
	for i, c := range someCells() {
		sets(t, a, string(rune('a'+i)), c)
	}
	b = a.Copy()
	keys(t, b, a.Keys()...)
	for i, c := range someCells() {
		has(t, b, string(rune('a'+i)), c)
	}
}
