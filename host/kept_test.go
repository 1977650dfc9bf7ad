package host

import (
	"strconv"
	"strings"
	"testing"

	"winnower/api"
)

// A pattern is kept once, however often it is asked for, and one that is none
// isn't.
func TestPatternsAreKept(t *testing.T) {
	h := handed(t, "")
	for range 3 {
		for i, pattern := range []string{"a", "b+", "", "c|d"} {
			finds(t, h, str("xaab"), str(pattern), i < 3)
		}
		findsNot(t, h, str("x"), str(noPattern), api.ErrPattern)
	}
	if len(h.patterns) != 4 {
		t.Error("patterns that are kept:", len(h.patterns))
	}
	m := h.patterns["a"]
	finds(t, h, str("x"), str("a"), false)
	if h.patterns["a"] != m {
		t.Error("a pattern that was kept was made again")
	}
}

// All that are kept cost no more than they shall, but for a single one.
func TestKeptPatternsAreFew(t *testing.T) {
	h := handed(t, "")
	most := 0
	within := func() {
		t.Helper()
		cost := 0
		for pattern, m := range h.patterns {
			cost += len(pattern) + m.Size()
		}
		if cost > mostKept && len(h.patterns) != 1 {
			t.Errorf("%d patterns are kept, at a cost of %d", len(h.patterns), cost)
		}
		most = max(most, len(h.patterns))
	}
	for range 2 {
		for i := range 80 {
			finds(t, h, str(strings.Repeat("ab", 1+i%7)), str("^([ab]{250}){70}"+strconv.Itoa(i)+"|b$"), true)
			within()
		}
		for i := range 5 {
			long := "[" + strings.Repeat("a", 300000+i) + "]"
			finds(t, h, str("xax"), str(long), true)
			finds(t, h, str("xbx"), str(long), false)
			within()
		}
		longest := "[" + strings.Repeat("a", 1<<20-2) + "]"
		finds(t, h, str("xax"), str(longest), true)
		within()
		finds(t, h, str("xbx"), str("b"), true)
		within()
		if most < 50 {
			t.Error("most patterns that were kept:", most)
		}
		most = 0
	}
}

// What is kept of texts that were handed in is in memory of its own.
func TestOwnMemory(t *testing.T) {
	long := strings.Repeat("abc:", 50)
	w := worldOf(t, api.Script{Files: files(long, "a\n", long+"x", "b\n"), Streams: 8})
	h, err := New(w, []string{long, long + "x"})
	if err != api.OK {
		t.Fatal(err)
	}
	goesOn(t, h, "a")
	sets(t, h, "OFS", str(long))
	finds(t, h, str(long), str(long), true)
	reads(t, h, 2, str(long), true, 0, none())
	kept := []string{h.specials["OFS"].S, h.specials["FILENAME"].S, h.main.name, h.main.rest[0]}
	for pattern := range h.patterns {
		kept = append(kept, pattern)
	}
	for of := range h.readers {
		kept = append(kept, of.name)
	}
	if len(kept) != 6 {
		t.Error(len(kept))
	}
	for i, s := range kept {
		if within(s, long) {
			t.Error("kept:", i)
		}
	}
}

// The readers of a name are let go.
func TestReadersAreLetGo(t *testing.T) {
	h, _ := hostOf(t, api.Script{Files: files("f", "a\nb\n", "g", "c\n"), Streams: 8})
	for range 100 {
		reads(t, h, 2, str("f"), true, 1, str("a"))
		reads(t, h, 3, str("f"), true, 0, none())
		reads(t, h, 2, str("g"), true, 1, str("c"))
		calls(t, h, "close", num(0), str("f"))
		if len(h.readers) != 1 {
			t.Error("readers that are kept:", len(h.readers))
		}
		calls(t, h, "close", num(0), str("g"))
	}
	if len(h.readers) != 0 {
		t.Error("readers that are kept:", len(h.readers))
	}
}
