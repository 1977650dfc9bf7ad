package arrays

import (
	"strings"

	"winnower/api"
)

// few is how many rows may be gone without a packing, be there no other ones.
const few = 16

// rows are keys and their cells, in the order in which the keys came. What is
// taken out leaves its row behind, so that no other one has to move.
type rows struct {
	places map[string]int // where in list a key stands
	list   []row
}

type row struct {
	key   string
	cell  api.Cell
	there bool // not taken out
}

func newRows(n int) *rows {
	return &rows{places: make(map[string]int, n), list: make([]row, 0, n)}
}

// row tells where a key's cell stands until the next change: behind all others,
// if there was no such key.
func (r *rows) row(key string) *row {
	at, ok := r.places[key]
	if !ok {
		// The key may be a short part of a long text, which shall not be kept.
		at = r.add(row{key: strings.Clone(key), there: true})
	}
	return &r.list[at]
}

func (r *rows) add(last row) int {
	at := len(r.list)
	r.places[last.key] = at
	r.list = append(r.list, last)
	return at
}

// takeOut says whether there was such a key.
func (r *rows) takeOut(key string) bool {
	at, ok := r.places[key]
	if !ok {
		return false
	}
	delete(r.places, key)
	r.list[at] = row{}
	if gone := len(r.list) - len(r.places); gone > few && gone > len(r.places) {
		*r = *r.packed()
	}
	return true
}

// packed makes rows of the same keys and cells, and none that is gone. All of it
// is made anew, so that the room of what was taken out is given back.
func (r *rows) packed() *rows {
	p := newRows(len(r.places))
	for _, one := range r.list {
		if one.there {
			p.add(one)
		}
	}
	return p
}
