package arrays

import (
	"slices"
	"strings"
	"testing"
	"unsafe"

	"winnower/api"
)

// noArrays are arrays that neither New nor Copy answered.
func noArrays(t *testing.T) map[string]*Array {
	byValue := *filled(t, "a", "b")
	copied := *filled(t, "a").Copy()
	overlaid := &Array{}
	*overlaid = *filled(t, "a")
	left := New()
	*left = Array{}
	other := New()
	*other = *filled(t, "a")
	return map[string]*Array{"nil": nil, "zero": {}, "new": new(Array), "by value": &byValue, "by value of a copy": &copied, "overlaid": overlaid, "laid empty": left, "laid over by another one": other}
}

// P9.2, R5: of no array Uninit, false, nothing, 0; Set is ErrNil.
func TestNoArray(t *testing.T) {
	for name, a := range noArrays(t) {
		for range 2 {
			for _, key := range []string{"a", "b", "", "x"} {
				gets(t, a, key, api.Cell{})
				hasNot(t, a, key)
				deletes(t, a, key, false)
				if err := a.Set(key, num(1)); err != api.ErrNil {
					t.Errorf("Set = %d", err)
				}
			}
			a.Clear()
			keys(t, a)
			if l := a.Keys(); l != nil {
				t.Errorf("Keys() = %q", l)
			}
			if b := a.Copy(); b != nil {
				t.Errorf("Copy() = %+v", b)
			}
		}
		if t.Failed() {
			t.Fatalf("of the array %s", name)
		}
	}
}

// R5: what is done to a copy by value does not turn the array.
func TestByValue(t *testing.T) {
	a := filled(t, "a", "b")
	b := *a
	b.Clear()
	b.Delete("a")
	b.Set("a", num(7))
	b.Get("c")
	keys(t, a, "a", "b")
	has(t, a, "a", num(1))
}

// R1: an older value that is laid back over an array, whatever came in between,
// leaves one of which all calls end.
func TestLaidBack(t *testing.T) {
	a := filled(t, "a", "b")
	old := *a
	for i, key := range numbered(100) {
		sets(t, a, key, num(i))
	}
	*a = old
	for range 2 {
		a.Get("99")
		a.Peek("50")
		a.Set("b", num(7))
		a.Keys()
		for _, key := range numbered(100) {
			a.Delete(key)
		}
		a.Copy()
		*a = old
	}
	a.Clear()
	keys(t, a)
	*a = old
	a.Get("a")
	a.Keys()
	*a = Array{}
	keys(t, a)
}

// within says whether a text lies in the memory of another one.
func within(part, whole string) bool {
	if part == "" || whole == "" {
		return false
	}
	at, from := uintptr(unsafe.Pointer(unsafe.StringData(part))), uintptr(unsafe.Pointer(unsafe.StringData(whole)))
	return at >= from && at < from+uintptr(len(whole))
}

// R3: Key's lists are not changed, their spare room neither, and a key is new
// memory, be it of one text.
func TestKeyIsNew(t *testing.T) {
	room := []string{"a", "b", "c", "d"}
	l := room[1:2:4]
	subsep := strings.Repeat("-", 3)
	one := Key(l, subsep)
	if within(one, room[1]) {
		t.Error("Key of one text is that text's memory")
	}
	two := Key([]string{strings.Repeat("x", 9), ""}, "")
	if two != "xxxxxxxxx" {
		t.Error(two)
	}
	long := strings.Repeat("y", 9)
	for _, l := range [][]string{{long, ""}, {"", long}, {"", long, ""}, {long}} {
		if within(Key(l, ""), long) {
			t.Errorf("Key(%q) is of a text's memory", l)
		}
	}
	if within(Key([]string{"", ""}, long), long) {
		t.Error("Key is of subsep's memory")
	}
	if !slices.Equal(room, []string{"a", "b", "c", "d"}) {
		t.Errorf("the list is %q", room)
	}
}

// R3: a key that is handed in is not kept; keys that are handed out are new.
func TestKeysAreNewTexts(t *testing.T) {
	record := strings.Repeat("some words ", 9)
	a := New()
	sets(t, a, record[:4], num(1))
	gets(t, a, record[5:10], api.Cell{})
	first, second := a.Keys(), a.Copy().Keys()
	again := a.Keys()
	for _, r := range a.held.list {
		if within(r.key, record) {
			t.Errorf("key %q is kept in the memory that was handed in", r.key)
		}
	}
	for key := range a.held.places {
		if within(key, record) {
			t.Errorf("key %q is kept in the memory that was handed in", key)
		}
	}
	for i := range first {
		if within(first[i], record) || within(second[i], record) {
			t.Errorf("key %q is of the memory that was handed in", first[i])
		}
		if within(first[i], again[i]) || within(first[i], second[i]) {
			t.Errorf("key %q is handed out twice", first[i])
		}
	}
}

// R4: the same calls have the same answers, each time.
func TestSameAgain(t *testing.T) {
	run := func() []string {
		a := New()
		for i, key := range numbered(100) {
			a.Set(key, num(i))
			if i%3 == 0 {
				a.Delete(numbered(100)[i/2])
			}
			a.Get(key + "x")
		}
		return a.Copy().Keys()
	}
	want := run()
	for range 20 {
		if got := run(); !slices.Equal(got, want) {
			t.Fatalf("%q, then %q", want, got)
		}
	}
}

// R7: places and bytes are nothing to a key: a long one is told from one that
// differs in its last byte alone.
func TestLongKeys(t *testing.T) {
	long := strings.Repeat("k", 1<<20)
	a := filled(t, long, long+"\x00", long[1:], long[:len(long)-1]+"l")
	keys(t, a, long, long+"\x00", long[1:], long[:len(long)-1]+"l")
	for i, key := range a.Keys() {
		has(t, a, key, num(i+1))
	}
	hasNot(t, a, long+"k")
	deletes(t, a, long, true)
	hasNot(t, a, long)
	has(t, a, long+"\x00", num(2))
}
