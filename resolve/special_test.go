package resolve

import (
	"slices"
	"strings"
	"testing"
)

func specialIs(t *testing.T, name string, want bool) {
	t.Helper()
	if got := Special(name); got != want {
		t.Errorf("Special(%q) = %v", brief(name), got)
	}
}

// P16.1: the specials are these.
func TestSpecials(t *testing.T) {
	if len(specials()) != 13 {
		t.Error(len(specials()))
	}
	for _, name := range specials() {
		specialIs(t, name, true)
		specialIs(t, strings.Clone(name), true)
	}
}

// P16.1: what is nearly a special is none.
func TestNearlySpecials(t *testing.T) {
	is := func(name string) {
		specialIs(t, name, slices.Contains(specials(), name))
	}
	for _, name := range specials() {
		is(strings.ToLower(name))
		is(strings.ToLower(name[:1]) + name[1:])
		is(name[:1] + strings.ToLower(name[1:]))
		for _, more := range append(specials(), " ", "\x00", "\n", "_", "S", "1", "(", "[]") {
			is(name + more)
			is(more + name)
		}
		for at := range name {
			is(name[:at])
			is(name[at:])
			is(name[:at] + name[at+1:])
			is(name[:at] + name[at:at+1] + name[at:])
			for b := range 256 {
				is(name[:at] + string([]byte{byte(b)}) + name[at+1:])
			}
		}
		is(strings.Repeat(name, 1<<16))
	}
	for _, name := range []string{"", " ", "\x00", "x", "ENVIRON", "ARGC", "ARGV", "NFS", "RT", "IGNORECASE", "FIELDWIDTHS", "BEGIN", "END", "length", "getline", "\xce\x9d\x52", "$0", "0"} {
		specialIs(t, name, false)
	}
	// All of up to two bytes.
	for a := range 256 {
		is(string([]byte{byte(a)}))
		for b := range 256 {
			is(string([]byte{byte(a), byte(b)}))
		}
	}
}
