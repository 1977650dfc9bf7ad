package arrays

import (
	"math/rand"
	"slices"
	"strconv"
	"testing"

	"winnower/api"
)

func seeded() *rand.Rand {
	return rand.New(rand.NewSource(9))
}

// num tells a cell that no other number has.
func num(n int) api.Cell {
	return api.Cell{Kind: api.Num, N: uint64(n)}
}

// someCells are cells of all kinds, right ones and others.
func someCells() []api.Cell {
	cells := []api.Cell{
		{},
		{Kind: api.Num},
		{Kind: api.Num, N: 1 << 63},
		{Kind: api.Num, N: 0x7ff8000000000001},
		{Kind: api.Str},
		{Kind: api.Str, S: "a\x00\xff"},
		{Kind: api.StrNum, N: 0x4028000000000000, S: " 12\n"},
		// Not right: what is no number in another form, what has too much or
		// too little, kinds that there are not.
		{Kind: api.Num, N: 0xfff0000000000001},
		{Kind: api.Num, N: 1, S: "x"},
		{N: 7},
		{S: "x"},
		{Kind: api.Str, N: 7, S: "x"},
		{Kind: api.StrNum, S: "x"},
		{Kind: 4},
		{Kind: 255, N: 1<<64 - 1, S: "\xff"},
	}
	for k := range 256 {
		cells = append(cells, api.Cell{Kind: api.CellKind(k), N: uint64(k), S: string([]byte{byte(k)})})
	}
	return cells
}

// someKeys are keys of any bytes, none of them twice.
func someKeys() []string {
	keys := []string{"", " ", "a", "ab", "abc", "b", "ba", "0", "00", "1", "1.0", "01", "+1", "-0", "A", "\x00\x00", "a\x00", "\x00a", "a\x1cb", "a\x1c", "\x1cb", "é", "e\u0301", "\xc3", "\xff\xfe", "\xff\xfe\xfd", "a\nb", "nan", "true"}
	for b := range 256 {
		if s := string([]byte{byte(b)}); !slices.Contains(keys, s) {
			keys = append(keys, s)
		}
	}
	return keys
}

// numbered tells so many keys.
func numbered(n int) []string {
	keys := make([]string, n)
	for i := range keys {
		keys[i] = strconv.Itoa(i)
	}
	return keys
}

// filled tells an array of some keys: the cell of each is the number of its
// place, from 1 on.
func filled(t *testing.T, keys ...string) *Array {
	t.Helper()
	a := New()
	for i, key := range keys {
		sets(t, a, key, num(i+1))
	}
	return a
}

func sets(t *testing.T, a *Array, key string, c api.Cell) {
	t.Helper()
	if err := a.Set(key, c); err != api.OK {
		t.Errorf("Set(%q, %+v) = %d", key, c, err)
	}
}

func gets(t *testing.T, a *Array, key string, want api.Cell) {
	t.Helper()
	if c := a.Get(key); c != want {
		t.Errorf("Get(%q) = %+v; want %+v", key, c, want)
	}
}

// has says that there is a key, and what its cell is.
func has(t *testing.T, a *Array, key string, want api.Cell) {
	t.Helper()
	if c, ok := a.Peek(key); c != want || !ok {
		t.Errorf("Peek(%q) = %+v, %v; want %+v, true", key, c, ok, want)
	}
	if !a.Has(key) {
		t.Errorf("Has(%q) = false", key)
	}
}

func hasNot(t *testing.T, a *Array, key string) {
	t.Helper()
	if c, ok := a.Peek(key); c != (api.Cell{}) || ok {
		t.Errorf("Peek(%q) = %+v, %v; want none", key, c, ok)
	}
	if a.Has(key) {
		t.Errorf("Has(%q) = true", key)
	}
}

func deletes(t *testing.T, a *Array, key string, want bool) {
	t.Helper()
	if a.Delete(key) != want {
		t.Errorf("Delete(%q) = %v", key, !want)
	}
}

// keys says what all keys are, in order, and how many.
func keys(t *testing.T, a *Array, want ...string) {
	t.Helper()
	if got := a.Keys(); !slices.Equal(got, want) {
		t.Errorf("Keys() = %q; want %q", got, want)
	}
	if n := a.Len(); n != len(want) {
		t.Errorf("Len() = %d; want %d", n, len(want))
	}
}

// same says that an array has the keys and cells of a model, and no other ones.
func same(t *testing.T, a *Array, m *model) {
	t.Helper()
	keys(t, a, m.Keys()...)
	for _, r := range m.rows {
		has(t, a, r.key, r.cell)
	}
}

// orders tells all orders of some keys.
func orders(keys []string) [][]string {
	if len(keys) == 0 {
		return [][]string{nil}
	}
	var all [][]string
	for i, first := range keys {
		for _, behind := range orders(slices.Delete(slices.Clone(keys), i, i+1)) {
			all = append(all, append([]string{first}, behind...))
		}
	}
	return all
}
