package match

import (
	"math/rand"
	"regexp"
	"strings"
	"sync"
	"testing"

	"winnower/api"
)

// P6.2: all small trees, on all short texts.
func TestSmallTrees(t *testing.T) {
	a := set("a")
	leaves := []api.Re{none, begun, ended, a, set("ab")}
	small := append(combined(leaves), leaves...)
	all := append(combined(small), small...)
	for _, r := range all {
		m := made(t, r)
		texts("ab", 4, func(s string) { agrees(t, m, r, s) })
	}
	if len(all) < 15000 {
		t.Error("few trees:", len(all))
	}
}

// combined tells all trees that are made of some in one more level.
func combined(kids []api.Re) []api.Re {
	var all []api.Re
	for _, x := range kids {
		for _, y := range kids {
			all = append(all, cat(x, y), alt(x, y))
		}
		for _, most := range []int{-1, 0, 1, 2} {
			for least := range 3 {
				if most < 0 || least <= most {
					all = append(all, times(least, most, x))
				}
			}
		}
	}
	return all
}

// randomTree tells a tree of a few bytes, with so many levels, and repeats of
// so many times at most.
func randomTree(random *rand.Rand, levels, most int) api.Re {
	sets := []string{"a", "b", "c", "ab", "abc", "a\x00\xff", "\x00", "\xff", ""}
	if levels == 1 || random.Intn(8) == 0 {
		switch random.Intn(8) {
		case 0:
			return none
		case 1:
			return begun
		case 2:
			return ended
		}
		return set(sets[random.Intn(3+random.Intn(7))])
	}
	var kids []api.Re
	for range 2 + random.Intn(3) {
		kids = append(kids, randomTree(random, levels-1, most))
	}
	switch random.Intn(3) {
	case 0:
		return cat(kids...)
	case 1:
		return alt(kids...)
	}
	least := random.Intn(1 + random.Intn(most))
	return times(least, []int{-1, -1, least, least + random.Intn(most)}[random.Intn(4)], kids[0])
}

func randomText(random *rand.Rand, length int) string {
	const bytes = "aaaaabbbbbccc\x00\xff"
	s := make([]byte, length)
	for i := range s {
		s[i] = bytes[random.Intn(len(bytes))]
	}
	return string(s)
}

// P6.2, P6.3: trees and texts by a fixed seed; each matcher is asked for many
// texts, long and short ones.
func TestRandomTrees(t *testing.T) {
	random := rand.New(rand.NewSource(6))
	found, inside := 0, 0
	for range 20000 {
		r := randomTree(random, 1+random.Intn(5), 4)
		if modelSize(r).Int64() > mostSize {
			continue
		}
		m := made(t, r)
		for range 6 {
			s := randomText(random, random.Intn(1+random.Intn(30)))
			agrees(t, m, r, s)
			if at, n, ok := m.Find(s, 0); ok && n > 0 {
				found++
				if at > 0 && at+n < len(s) {
					inside++
				}
			}
		}
	}
	if found < 20000 || inside < 5000 {
		t.Error("few of the trees take any bytes:", found, inside)
	}
}

// P6.3: the bytes ahead of from are nothing, but how many they are.
func TestBytesAhead(t *testing.T) {
	random := rand.New(rand.NewSource(63))
	for range 5000 {
		r := randomTree(random, 1+random.Intn(5), 3)
		m := made(t, r)
		ahead, s := 1+random.Intn(5), randomText(random, random.Intn(8))
		at, n, ok := m.Find(randomText(random, ahead)+s, ahead)
		for range 3 {
			if at2, n2, ok2 := m.Find(randomText(random, ahead)+s, ahead); at2 != at || n2 != n || ok2 != ok {
				t.Fatalf("%s in %q behind %d other bytes: %d, %d, %v; then %d, %d, %v", tell(r), s, ahead, at, n, ok, at2, n2, ok2)
			}
		}
		// One byte more moves all by one.
		if at2, n2, ok2 := m.Find(randomText(random, ahead+1)+s, ahead+1); ok2 != ok || n2 != n || ok && at2 != at+1 {
			t.Fatalf("%s in %q behind a byte more: %d, %d, %v; then %d, %d, %v", tell(r), s, at, n, ok, at2, n2, ok2)
		}
	}
}

// P6.3: what one of two trees finds, both find, or something better.
func TestEitherTree(t *testing.T) {
	random := rand.New(rand.NewSource(36))
	for range 5000 {
		one, two := randomTree(random, 1+random.Intn(4), 3), randomTree(random, 1+random.Intn(4), 3)
		both := made(t, alt(one, two))
		for range 4 {
			s := randomText(random, random.Intn(10))
			from := random.Intn(len(s) + 1)
			wantAt, wantN, want := made(t, one).Find(s, from)
			at2, n2, ok2 := made(t, two).Find(s, from)
			if ok2 && (!want || at2 < wantAt || at2 == wantAt && n2 > wantN) {
				wantAt, wantN, want = at2, n2, true
			}
			if at, n, ok := both.Find(s, from); at != wantAt || n != wantN || ok != want {
				t.Fatalf("%s or %s in %q from %d: %d, %d, %v; want %d, %d, %v", tell(one), tell(two), s, from, at, n, ok, wantAt, wantN, want)
			}
		}
	}
}

// P6.3: a matcher says the same whenever it is asked, whatever it was asked
// between.
func TestAskedAgain(t *testing.T) {
	between := []string{"", "b", strings.Repeat("ab", 500), "aaaa", "\x00\xff", long[:5000]}
	for _, pattern := range []string{"a*b", "(a|ab)(c|bcd)(d*)", "^a|b$", "(ab?){2,}", "", "[^a]", "x"} {
		m, texts := of(t, pattern), []string{"abcd", "aabb", "", "b", "xaxb", "ab\x00"}
		for _, s := range texts {
			for from := range len(s) + 1 {
				at, n, ok := m.Find(s, from)
				for _, other := range append(between, texts...) {
					m.Find(other, len(other)/2)
					m.Has(other)
					m.Find(s, -1)
					m.Find(other, len(other)+1)
					m.Size()
					if at2, n2, ok2 := m.Find(s, from); at2 != at || n2 != n || ok2 != ok {
						t.Fatalf("%s in %q from %d: %d, %d, %v; then, behind %s, %d, %d, %v", pattern, s, from, at, n, ok, brief(other), at2, n2, ok2)
					}
				}
			}
		}
	}
}

// R3: a tree isn't changed, nor what it has room for, and a matcher keeps
// nothing of it.
func TestTreeIsNotKept(t *testing.T) {
	room := row(set("x"), 6)
	copy(room, []api.Re{set("a"), times(1, -1, set("b")), alt(ended, set("c"))})
	inner := room[1].Kids
	r := cat(room[:3:6]...)
	m := made(t, r)
	m.Find("aabbc", 0)
	want := []api.Re{set("a"), times(1, -1, set("b")), alt(ended, set("c")), set("x"), set("x"), set("x")}
	for i := range room {
		if tell(room[i]) != tell(want[i]) {
			t.Errorf("the kid %d is %s; want %s", i, tell(room[i]), tell(want[i]))
		}
	}
	inner[0] = set("z")
	room[0] = set("z")
	clear(room[2].Kids)
	r.Kids[2] = none
	if at, n, ok := m.Find("zzaabbcz", 0); at != 3 || n != 4 || !ok || m.Size() != 7 {
		t.Error("a matcher whose tree was changed:", at, n, ok, m.Size())
	}
	if at, n, ok := made(t, cat(row(set("z"), 2)...)).Find("zzaabbcz", 0); at != 0 || n != 2 || !ok {
		t.Error("another matcher:", at, n, ok)
	}
}

// R4: an answer hangs on the matcher and the text alone, whatever else is asked
// at the same time.
func TestAskedBesideEachOther(t *testing.T) {
	m, r := of(t, "(a|ab)*c|b{2,3}$"), tree(t, "(a|ab)*c|b{2,3}$")
	var all sync.WaitGroup
	for i := range 8 {
		all.Go(func() {
			random := rand.New(rand.NewSource(int64(i)))
			for range 300 {
				s := randomText(random, random.Intn(20))
				wantAt, wantN, want := modelFind(r, s, 0)
				if at, n, ok := m.Find(s, 0); at != wantAt || n != wantN || ok != want {
					t.Errorf("Find(%q) = %d, %d, %v; want %d, %d, %v", s, at, n, ok, wantAt, wantN, want)
				}
			}
		})
	}
	all.Wait()
}

// P6.2: texts as long as they get. What goes through them once for each place
// doesn't end here.
func TestLongTexts(t *testing.T) {
	last := len(long)
	finds(t, []finding{
		{"b", long, 0, -1, 0}, {"a", long, last - 1, last - 1, 1}, {"a*", long, 0, 0, last}, {"a*", long, 1000, 1000, last - 1000}, {"a*b", long, 0, -1, 0}, {"a*b", long + "b", 0, 0, last + 1}, {"(a*)*b", long, 0, -1, 0}, {"(a|aa)+$", long, 0, 0, last}, {"(a|b)*c", long, 7, -1, 0},
		{"a+$", long + "b", 0, -1, 0}, {"^a*$", long, 0, 0, last}, {"^b", long, 0, -1, 0}, {"a$", long, 0, last - 1, 1}, {"$", long, 3, last, 0}, {"b.*", long + "b" + long[:9], 0, last, 10}, {".*b.*b.*b", long, 0, -1, 0},
		{"b|a{255}$", long[:1<<17], 0, 1<<17 - 255, 255}, {"(a?){99}b", long[:1<<14] + "b", 0, 1<<14 - 99, 100}, {"(a{50}){40}b", long[:1<<14] + "b", 0, 1<<14 - 2000, 2001}, {"(a{2}|a{3}){9}", long, 11, 11, 27},
	})
	if !of(t, "b$").Has(long+"b") || of(t, "b").Has(long) {
		t.Error("Has of a long text")
	}
}

// P6.2: long texts by a fixed seed, held against the library's patterns, which
// can be asked for the longest ones, too.
func TestAgainstLibrary(t *testing.T) {
	random := rand.New(rand.NewSource(26))
	letters := strings.NewReplacer("\x00", "c", "\xff", "b")
	for _, pattern := range []string{
		"abc", "a+b", "(a|ab)(c|bcd)", "(ab|ba)+", "(a|b)*c", "[^c]{20,}", "a.{3}b", "c(a|b)*c", "^(a|b)*c", "(a|b)*$", "(abc|bca|cab){2}", "((a|b)c?){10}a", "(a*b)+c", "a{4,6}c|b{5}", "(aa|ab|ba)*cc", "a{9,}|b{9,}", "(a?b?c?){9}c{6}", "c{9}|$", "x*", "x|c{7}b", "(a|bb|ccc)*$", "c$|^a",
	} {
		m, library := of(t, pattern), regexp.MustCompile(pattern)
		library.Longest()
		for _, length := range []int{10, 300, 300, 300, 30000} {
			s := letters.Replace(randomText(random, length))
			for _, from := range []int{0, 1, random.Intn(length), random.Intn(length), length - 3, length} {
				if from > 0 && strings.Contains(pattern, "^") {
					continue
				}
				place := library.FindStringIndex(s[from:])
				at, n, ok := m.Find(s, from)
				if ok != (place != nil) || ok && (at != from+place[0] || at+n != from+place[1]) {
					t.Fatalf("%s in %d bytes from %d: %d, %d, %v; want %v behind that", pattern, length, from, at, n, ok, place)
				}
			}
		}
	}
}
