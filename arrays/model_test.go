package arrays

import (
	"fmt"
	"math/rand"
	"slices"
	"testing"

	"winnower/api"
)

// model is an array, word by word as the chapter has it: rows in order, looked
// through one by one.
type model struct {
	rows []modelRow
}

type modelRow struct {
	key  string
	cell api.Cell
}

// calls are what an array and a model may be asked for.
type calls interface {
	Get(key string) api.Cell
	Peek(key string) (api.Cell, bool)
	Set(key string, c api.Cell) api.Errno
	Has(key string) bool
	Delete(key string) bool
	Clear()
	Keys() []string
	Len() int
}

func (m *model) at(key string) int {
	return slices.IndexFunc(m.rows, func(r modelRow) bool { return r.key == key })
}

func (m *model) Get(key string) api.Cell {
	if at := m.at(key); at >= 0 {
		return m.rows[at].cell
	}
	m.rows = append(m.rows, modelRow{key: key})
	return api.Cell{}
}

func (m *model) Peek(key string) (api.Cell, bool) {
	if at := m.at(key); at >= 0 {
		return m.rows[at].cell, true
	}
	return api.Cell{}, false
}

func (m *model) Set(key string, c api.Cell) api.Errno {
	if at := m.at(key); at >= 0 {
		m.rows[at].cell = c
	} else {
		m.rows = append(m.rows, modelRow{key: key, cell: c})
	}
	return api.OK
}

func (m *model) Has(key string) bool {
	return m.at(key) >= 0
}

func (m *model) Delete(key string) bool {
	at := m.at(key)
	if at < 0 {
		return false
	}
	m.rows = slices.Delete(m.rows, at, at+1)
	return true
}

func (m *model) Clear() {
	m.rows = nil
}

func (m *model) Keys() []string {
	var keys []string
	for _, r := range m.rows {
		keys = append(keys, r.key)
	}
	return keys
}

func (m *model) Len() int {
	return len(m.rows)
}

func (m *model) Copy() *model {
	return &model{rows: slices.Clone(m.rows)}
}

// call is one of the calls, with what it is handed.
type call struct {
	name string
	key  string
	cell api.Cell
}

func (c call) on(x calls) string {
	switch c.name {
	case "Get":
		return fmt.Sprint(x.Get(c.key))
	case "Peek":
		return fmt.Sprint(x.Peek(c.key))
	case "Set":
		return fmt.Sprint(x.Set(c.key, c.cell))
	case "Has":
		return fmt.Sprint(x.Has(c.key))
	case "Delete":
		return fmt.Sprint(x.Delete(c.key))
	case "Clear":
		x.Clear()
	}
	return fmt.Sprintf("%q %d", x.Keys(), x.Len())
}

// All rows of so many of some calls do with an array what they do with a model.
func TestAllShortRows(t *testing.T) {
	few := []call{
		{name: "Get", key: "a"}, {name: "Get", key: ""},
		{name: "Set", key: "a", cell: num(1)}, {name: "Set", key: "b", cell: num(2)}, {name: "Set", key: "a", cell: num(3)},
		{name: "Delete", key: "a"}, {name: "Delete", key: "b"}, {name: "Clear"},
		{name: "Peek", key: "b"}, {name: "Has", key: "a"},
	}
	var row [5]int
	for {
		a, m := New(), &model{}
		for _, i := range row {
			if got, want := few[i].on(a), few[i].on(m); got != want {
				t.Fatalf("of the row %v: %+v = %s; want %s", row, few[i], got, want)
			}
			same(t, a, m)
		}
		if t.Failed() {
			t.Fatalf("of the row %v", row)
		}
		at := 0
		for at < len(row) && row[at] == len(few)-1 {
			row[at] = 0
			at++
		}
		if at == len(row) {
			return
		}
		row[at]++
	}
}

// wildCall tells one of all calls; of a hundred so many are to delete.
func wildCall(r *rand.Rand, keys []string, cells []api.Cell, deletions int) call {
	c := call{key: keys[r.Intn(len(keys))], cell: cells[r.Intn(len(cells))]}
	switch n := r.Intn(100); {
	case n < deletions:
		c.name = "Delete"
	case r.Intn(2000) == 0:
		c.name = "Clear"
	default:
		c.name = []string{"Get", "Peek", "Set", "Set", "Set", "Has"}[r.Intn(6)]
	}
	return c
}

// Long rows of calls do with arrays what they do with models, and copies of them
// go their own ways.
func TestLongRows(t *testing.T) {
	r := seeded()
	cells := someCells()
	for _, x := range []struct{ keys, deletions int }{{3, 50}, {30, 10}, {30, 30}, {30, 90}, {300, 20}, {300, 45}, {300, 70}} {
		keys := append(someKeys(), numbered(300)[2:]...)[:x.keys]
		arrays, models := []*Array{New()}, []*model{{}}
		for n := range 10000 {
			i := r.Intn(len(arrays))
			a, m := arrays[i], models[i]
			if r.Intn(500) == 0 && len(arrays) < 8 {
				arrays, models = append(arrays, a.Copy()), append(models, m.Copy())
			}
			// First more and more keys, then fewer and fewer.
			deletions := x.deletions
			if n/1000%2 == 1 {
				deletions = 95
			}
			c := wildCall(r, keys, cells, deletions)
			if got, want := c.on(a), c.on(m); got != want {
				t.Fatalf("call %d, of %d keys: %+v = %s; want %s", n, x.keys, c, got, want)
			}
			if n%50 == 0 {
				for i := range arrays {
					same(t, arrays[i], models[i])
				}
			}
		}
	}
}
