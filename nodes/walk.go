package nodes

import (
	"math"

	"winnower/api"
)

// deepest is the last level whose parts count.
const deepest = api.MaxNest + 1

// sum is what is told of parts and of all within them.
type sum struct {
	count, depth int
	fit          bool // each one
}

func (s sum) with(more sum) sum {
	return sum{count: plus(s.count, more.count), depth: max(s.depth, more.depth), fit: s.fit && more.fit}
}

// plus stays at the greatest int: parts that are too many never seem few.
func plus(a, b int) int {
	if a > math.MaxInt-b {
		return math.MaxInt
	}
	return a + b
}

// place is a part at a level.
type place struct {
	part  part
	level int
}

// walk sums up parts, level by level. A list may stand at many places of a tree,
// or within itself: what is known of a part at a level is kept, so that the walk
// ends soon then, too.
type walk struct {
	fits  func(p part) bool
	known map[place]sum
}

func newWalk(fits func(p part) bool) *walk {
	return &walk{fits: fits, known: map[place]sum{}}
}

// all sums up the parts of a list, which are at a level.
func (w *walk) all(parts list, level int) sum {
	all := sum{fit: true}
	if level <= deepest {
		parts(func(p part) { all = all.with(w.one(p, level)) })
	}
	return all
}

func (w *walk) one(p part, level int) sum {
	at := place{p, level}
	known, ok := w.known[at]
	if !ok {
		known = sum{count: 1, depth: level, fit: w.fits(p)}.with(w.all(within(p), level+1))
		// A part with none within it is as soon looked at as found again.
		if known.count > 1 {
			w.known[at] = known
		}
	}
	return known
}
