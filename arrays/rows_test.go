package arrays

import (
	"math/rand"
	"slices"
	"strconv"
	"strings"
	"testing"

	"winnower/api"
)

// P9.2, P9.3: keys deleted in every order leave the others as they stood; what
// comes behind them is the last.
func TestDeleteInAllOrders(t *testing.T) {
	for n := 1; n <= 6; n++ {
		all := numbered(n)
		for _, order := range orders(all) {
			a, m := New(), &model{}
			for i, key := range all {
				sets(t, a, key, num(i))
				m.Set(key, num(i))
			}
			for _, key := range order {
				deletes(t, a, key, true)
				m.Delete(key)
				same(t, a, m)
			}
			for i, key := range order {
				sets(t, a, key, num(i+10))
				m.Set(key, num(i+10))
			}
			same(t, a, m)
		}
	}
}

// deletions are orders in which many keys are deleted.
func deletions(all []string) map[string][]string {
	back := slices.Clone(all)
	slices.Reverse(back)
	var inner, outer []string
	for i := range all {
		if i%2 == 0 {
			inner = append(inner, all[i])
			outer = append(outer, all[len(all)/2+i/2])
		} else {
			outer = append(outer, all[len(all)/2-1-i/2])
		}
	}
	for i := range all {
		if i%2 == 1 {
			inner = append(inner, all[i])
		}
	}
	wild := slices.Clone(all)
	seeded().Shuffle(len(wild), func(i, j int) { wild[i], wild[j] = wild[j], wild[i] })
	return map[string][]string{"ahead": all, "back": back, "every second": inner, "from the middle": outer, "wild": wild}
}

// P9.2, P9.3: likewise of so many keys that what is left is packed, with more
// keys behind that at every point, and a copy.
func TestDeleteMany(t *testing.T) {
	for _, n := range []int{2, 16, 32, 33, 34, 40, 64, 100, 200} {
		all := numbered(n)
		for name, order := range deletions(all) {
			a, m := New(), &model{}
			for i, key := range all {
				sets(t, a, key, num(i))
				m.Set(key, num(i))
			}
			for i, key := range order {
				deletes(t, a, key, true)
				deletes(t, a, key, false)
				m.Delete(key)
				same(t, a, m)
				if i%7 == 3 {
					b, k := a.Copy(), m.Copy()
					behind := order[i/2]
					sets(t, b, behind, num(-i))
					k.Set(behind, num(-i))
					gets(t, b, "new", k.Get("new"))
					same(t, b, k)
					same(t, a, m)
				}
				if i%5 == 2 {
					sets(t, a, "+"+key, num(i))
					m.Set("+"+key, num(i))
				}
			}
			same(t, a, m)
			if t.Failed() {
				t.Fatalf("of %d keys, %s", n, name)
			}
		}
	}
}

// What was deleted is packed when it is much: rows that are gone are never many
// more than those that are there.
func TestPacked(t *testing.T) {
	bounded := func(a *Array) {
		t.Helper()
		if n, most := len(a.held.list), 2*a.Len()+few; n > most {
			t.Fatalf("%d rows of %d keys", n, a.Len())
		}
	}
	for _, order := range deletions(numbered(5000)) {
		a := New()
		for i, key := range numbered(5000) {
			sets(t, a, key, num(i))
		}
		for _, key := range order {
			deletes(t, a, key, true)
			bounded(a)
		}
		if n := cap(a.held.list); n > 2*few {
			t.Errorf("room for %d rows is kept", n)
		}
	}
	// One comes and one goes.
	a := filled(t, "stays")
	for i := range 100000 {
		sets(t, a, strconv.Itoa(i), num(i))
		deletes(t, a, strconv.Itoa(i), true)
		bounded(a)
	}
	keys(t, a, "stays")
	has(t, a, "stays", num(1))
	if n := cap(a.held.list); n > 4*few {
		t.Errorf("room for %d rows is kept", n)
	}
}

// Nothing is packed as long as little was deleted: each packing has as many
// deletions ahead of it as it has work.
func TestNotPackedTooOften(t *testing.T) {
	a := New()
	for i, key := range numbered(1000) {
		sets(t, a, key, num(i))
	}
	list := &a.held.list[0]
	for _, key := range numbered(500) {
		deletes(t, a, key, true)
		if &a.held.list[0] != list {
			t.Fatalf("packed when %q was deleted", key)
		}
	}
	deletes(t, a, "500", true)
	if &a.held.list[0] == list || len(a.held.list) != 499 {
		t.Error("not packed")
	}
	// A few rows are not worth it.
	a = filled(t, numbered(few)...)
	for _, key := range numbered(few) {
		deletes(t, a, key, true)
	}
	if len(a.held.list) != few {
		t.Error("few rows were packed")
	}
}

// Of many keys a call costs no more than of few: so many of them, set, asked for
// and deleted in several orders, take no more than a moment.
func TestMany(t *testing.T) {
	all := numbered(200000)
	for _, order := range deletions(all) {
		a := New()
		for i, key := range all {
			a.Set(key, num(i))
		}
		for i, key := range order {
			if !a.Delete(key) || a.Has(key) || a.Len() != len(order)-i-1 {
				t.Fatalf("Delete(%q)", key)
			}
		}
		keys(t, a)
	}
}

// What a deleted or cleared key held is let go, and a packed or copied array
// keeps the cells as they are.
func TestGoneIsLetGo(t *testing.T) {
	a := filled(t, "a", "b")
	sets(t, a, "a", api.Cell{Kind: api.Str, S: strings.Repeat("x", 1000)})
	deletes(t, a, "a", true)
	if r := a.held.list[0]; r != (row{}) {
		t.Errorf("a row that is gone holds %+v", r)
	}
	a.Clear()
	if len(a.held.places) != 0 || cap(a.held.list) != 0 {
		t.Errorf("a cleared array holds %+v", a.held)
	}
}

// P9.3: many keys set again, in any order, stay where they are, ahead of a
// packing and behind it.
func TestSetAgainMany(t *testing.T) {
	all := numbered(100)
	a := filled(t, all...)
	setAll := func(left []string) {
		t.Helper()
		r := rand.New(rand.NewSource(3))
		for _, i := range r.Perm(len(left)) {
			sets(t, a, left[i], num(-i))
			gets(t, a, left[i], num(-i))
		}
		keys(t, a, left...)
		for i, key := range left {
			has(t, a, key, num(-i))
		}
	}
	setAll(all)
	for len(all) > 3 {
		for _, key := range all[:len(all)/2] {
			deletes(t, a, key, true)
		}
		all = all[len(all)/2:]
		setAll(all)
	}
}
