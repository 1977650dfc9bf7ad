package reader

import (
	"strings"
	"testing"
	"unsafe"

	"winnower/api"
)

// R5: of no reader ErrNil, and false.
func TestNoReader(t *testing.T) {
	w, made := handed(t, "a:b")
	_, empty := handed(t, "")
	ends(t, empty, ":")
	byValue, byValueEnded := *made, *empty
	overlaid := &Reader{}
	*overlaid = *made
	_, laidEmpty := handed(t, "a")
	*laidEmpty = Reader{}
	_, laidOver := handed(t, "a")
	*laidOver = *empty
	for name, r := range map[string]*Reader{"nil": nil, "zero": {}, "by value": &byValue, "by value, ended": &byValueEnded, "overlaid": overlaid, "laid empty": laidEmpty, "laid over": laidOver} {
		for _, rs := range []string{":", "", "\n", "ab"} {
			for range 2 {
				if s, ok, err := r.Next(rs); s != "" || ok || err != api.ErrNil {
					t.Errorf("of the reader %s: Next(%q) = %q, %v, %d", name, rs, s, ok, err)
				}
				if r.Ended() {
					t.Errorf("of the reader %s: ended", name)
				}
			}
		}
	}
	rest(t, w, api.InFile, "-", "a:b")
}

// R1: an older value that is laid back over a reader leaves one of which all
// calls end, and what a copy by value was asked turns nothing.
func TestLaidBack(t *testing.T) {
	_, r := handed(t, strings.Repeat("a:b\n\n", 500))
	tells(t, r, ":", "a")
	old := *r
	old.Next("")
	tells(t, r, "", "b")
	tells(t, r, "x", strings.Repeat("a:b\n\n", 499))
	ends(t, r, ":")
	*r = old
	tells(t, r, "", "b")
	tells(t, r, ":", "a")
}

// within says whether a text lies in the memory of another one.
func within(part, whole string) bool {
	if part == "" || whole == "" {
		return false
	}
	at, from := uintptr(unsafe.Pointer(unsafe.StringData(part))), uintptr(unsafe.Pointer(unsafe.StringData(whole)))
	return at >= from && at < from+uintptr(len(whole))
}

// R3: what is told is new, and shares no memory with what stays.
func TestRecordsAreNew(t *testing.T) {
	source := strings.Repeat("some:words\n\nand ", 200)
	_, r := handed(t, source)
	for _, rs := range []string{":", "\n", "", " ", ":", "x", ""} {
		before := r.left
		s, _, _ := r.Next(rs)
		if within(s, source) || within(s, before) || within(s, r.left) || within(r.left, s) {
			t.Errorf("the record %q by %q is of memory that stays", short(s), rs)
		}
	}
}

// What is kept from call to call is what is left, without the memory of what was
// told.
func TestLeftIsShort(t *testing.T) {
	long := bytesOf(1 << 20)
	_, r := handed(t, long+":y:z")
	s, _, _ := r.Next(":")
	if s != long || r.left != "y:z" {
		t.Errorf("%d bytes, and %q is left", len(s), r.left)
	}
	gathered := &text{all: "x"}
	gathered.add(long)
	gathered.add("yz")
	if left := gathered.behind(len(long) + 2); left != "z" || within(left, gathered.all) {
		t.Errorf("%q is kept in the memory of all that was read", left)
	}
	_, r = handed(t, long)
	r.Next(":")
	if r.left != "" {
		t.Errorf("%d bytes are left of nothing", len(r.left))
	}
}
