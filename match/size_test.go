package match

import (
	"math/big"
	"math/rand"
	"slices"
	"testing"

	"winnower/api"
)

// sized says that a tree has a size, and a matcher exactly if that may be.
func sized(t *testing.T, want int64, r api.Re) {
	t.Helper()
	if size := modelSize(r); size.Cmp(big.NewInt(want)) != 0 {
		t.Fatalf("the size of %s is %s, not %d", tell(r), size, want)
	}
	if want > mostSize {
		refused(t, api.ErrLong, r)
		return
	}
	m := made(t, r)
	if int64(m.Size()) != want {
		t.Errorf("Size of %s = %d; want %d", tell(r), m.Size(), want)
	}
	// It is built of no more than its size asks for.
	if len(m.states) > 2*m.Size() {
		t.Errorf("%d states for a size of %d: %s", len(m.states), want, tell(r))
	}
}

// P6.1: sizes of each kind.
func TestSize(t *testing.T) {
	a := set("a")
	for _, x := range []struct {
		want int64
		r    api.Re
	}{
		{1, none}, {1, a}, {1, set("")}, {1, begun}, {1, ended},
		{3, cat(a, a)}, {4, cat(a, none, begun)}, {3, alt(a, a)}, {5, alt(a, ended, none, a)}, {7, cat(alt(a, a), cat(a, a))},
		{2, times(0, -1, a)}, {2, times(1, -1, a)}, {3, times(2, -1, a)}, {256, times(255, -1, a)}, {2, times(0, 0, a)}, {2, times(0, 1, a)}, {2, times(1, 1, a)}, {4, times(0, 3, a)}, {4, times(3, 3, a)}, {6, times(2, 5, a)}, {256, times(0, 255, a)}, {256, times(255, 255, none)},
		{4, times(0, -1, cat(a, a))}, {4, times(0, 0, cat(a, a))}, {10, times(1, 3, alt(a, a))}, {9, times(2, 2, times(3, 3, a))}, {257, times(0, 0, times(0, 255, a))}, {3, times(0, -1, times(0, -1, a))},
		{200, around(199, 1, 1, a)}, {200, around(199, 0, 1, a)}, {200, around(199, 0, -1, none)}, {200, around(199, 1, -1, a)},
	} {
		sized(t, x.want, x.r)
	}
}

// P6.1: 20000, and more.
func TestGreatestSize(t *testing.T) {
	a := set("a")
	for _, kind := range []func(kids ...api.Re) api.Re{cat, alt} {
		// 78 kids of 256 each, and some of 1.
		for _, repeat := range []api.Re{times(255, 255, a), times(255, -1, begun), times(0, 255, none)} {
			for _, some := range []int{30, 31, 32, 33, 1000} {
				sized(t, int64(1+78*256+some), kind(slices.Concat(row(repeat, 78), row(a, some))...))
			}
		}
		// As many trees as there may be.
		sized(t, 10000, kind(row(a, 9999)...))
		sized(t, 19999, times(2, 2, kind(row(a, 9998)...)))
		sized(t, 20001, times(2, -1, kind(append(row(a, 9996), times(0, 2, a))...)))
		sized(t, 29998, times(0, 3, kind(row(a, 9998)...)))
	}
	// Repeats within repeats: 29, 204, 2857 and then 20000.
	for _, least := range []int{0, 1, 6, 7} {
		nested := times(least, 7, times(14, 14, times(7, -1, times(28, 28, a))))
		sized(t, 20000, nested)
		for _, most := range []int{-1, 0, 1} {
			sized(t, 20001, times(0, most, nested))
		}
		sized(t, 20002, alt(nested, a))
		sized(t, 40001, times(1, 2, nested))
	}
	sized(t, 20001, times(100, 100, times(199, 199, a)))
	sized(t, 20001, times(100, -1, times(0, 199, a)))
}

// P6.1: far above, up to what no number of the language tells.
func TestSizesFarAbove(t *testing.T) {
	for _, kid := range []api.Re{none, set("a"), begun, cat(set("a"), ended)} {
		for levels := 2; levels < 195; levels++ {
			refused(t, api.ErrLong, around(levels, 255, 255, kid))
			refused(t, api.ErrLong, around(levels, 255, -1, kid))
			refused(t, api.ErrLong, times(0, 0, around(levels, 0, 255, kid)))
		}
		for levels := 15; levels < 195; levels++ {
			refused(t, api.ErrLong, around(levels, 0, 2, kid))
			refused(t, api.ErrLong, around(levels, 2, -1, kid))
		}
	}
	wide := around(197, 0, 255, set("a"))
	refused(t, api.ErrLong, alt(row(wide, 50)...))
	refused(t, api.ErrLong, cat(row(wide, 50)...))
}

// P6.1: trees by a fixed seed, of which some are too great.
func TestRandomSizes(t *testing.T) {
	random := rand.New(rand.NewSource(61))
	few, many := 0, 0
	for range 5000 {
		r := randomTree(random, 2+random.Intn(4), 120)
		size := modelSize(r).Int64()
		sized(t, size, r)
		switch {
		case size > mostSize:
			many++
		case size > 1000:
			few++
		}
	}
	if few < 100 || many < 100 {
		t.Error("few of the trees are great:", few, many)
	}
}

// P6.1: repeats of one or more, within each other, are built once each, and
// what they find is found at once.
func TestNestedRepeats(t *testing.T) {
	for _, x := range []struct {
		least, most, size int
	}{{1, -1, 200}, {0, -1, 200}, {0, 1, 200}, {1, 1, 200}} {
		m := made(t, around(199, x.least, x.most, set("a")))
		n := 1
		if x.most < 0 {
			n = 4
		}
		if at, long, ok := m.Find("aaaa", 0); at != 0 || long != n || !ok || m.Size() != x.size {
			t.Error(x, at, long, ok, m.Size())
		}
		if m.Has("b") != (x.least == 0) {
			t.Error(x, "in another byte")
		}
	}
}
