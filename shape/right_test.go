package shape

import (
	"math"
	"testing"

	"winnower/api"
)

// rightTrees are one or more of each kind, with the fields that it names.
func rightTrees() []api.Re {
	a, b := set("a"), set("b")
	return []api.Re{
		none, begin, end, a, set(""), not(""), not("a"), set("\x00"), set("\xff"),
		cat(a, b), cat(a, a), cat(none, none), cat(begin, a, end), cat(cat(a, b), alt(a, b)), cat(times(0, -1, a), b),
		alt(a, b), alt(none, none), alt(begin, end), alt(alt(a, b), cat(a, b)), alt(a, b, none, a),
		times(0, -1, a), times(1, -1, a), times(0, 1, a), times(0, 0, a), times(2, 2, none), times(255, 255, begin), times(255, -1, end), times(0, 255, cat(a, b)), times(3, 200, alt(a, b)), times(0, -1, times(2, 3, a)),
	}
}

// P5.2: what is right, with lists of no kids that are there and that aren't.
func TestRight(t *testing.T) {
	for _, r := range rightTrees() {
		if !Right(r) {
			t.Errorf("Right(%s) is false", tell(r))
		}
		if len(r.Kids) > 0 {
			continue
		}
		bare := r
		r.Kids = []api.Re{}
		room := r
		room.Kids = []api.Re{{Kind: 99}}[:0]
		if !Right(r) || !Right(room) || !Right(cat(r, room)) || !Right(times(0, 1, r)) {
			t.Errorf("Right(%s) is false with a list of no kids", tell(r))
		}
		text, _ := Show(bare)
		shows(t, text, r)
		shows(t, text, room)
	}
}

// P5.2: each field that a kind does not name.
func TestUnnamedFields(t *testing.T) {
	for _, r := range rightTrees() {
		for i := range r.Set {
			if r.Kind == api.ReSet {
				break
			}
			for _, bit := range []uint64{1, 1 << 63, 1<<64 - 1} {
				s := clone(r)
				s.Set[i] = bit
				wrong(t, s)
			}
		}
		for _, n := range []int{1, -1, 2, 255, math.MaxInt, math.MinInt} {
			if r.Kind == api.ReTimes {
				break
			}
			s := clone(r)
			s.Min = n
			wrong(t, s)
			s.Max = n
			wrong(t, s)
			s.Min = 0
			wrong(t, s)
		}
	}
	for _, r := range []api.Re{none, begin, end, set("a"), set("")} {
		for _, kids := range [][]api.Re{{none}, {set("a"), set("b")}, {{}}, {r}} {
			r.Kids = kids
			wrong(t, r)
		}
	}
}

// P5.2: how many kids there are.
func TestKids(t *testing.T) {
	a := set("a")
	for kids := range 5 {
		for _, kind := range []api.ReKind{api.ReCat, api.ReAlt, api.ReTimes} {
			r := api.Re{Kind: kind, Kids: make([]api.Re, kids)}
			for i := range r.Kids {
				r.Kids[i] = a
			}
			may := kids >= 2
			if kind == api.ReTimes {
				may = kids == 1
			}
			if !may {
				wrong(t, r)
			} else if !Right(r) {
				t.Errorf("Right(%s) is false", tell(r))
			}
		}
	}
}

// P5.2: how many times.
func TestTimes(t *testing.T) {
	edges := []int{math.MinInt, -256, -255, -3, -2, -1, 0, 1, 2, 3, 254, 255, 256, 257, 1 << 32, 1<<32 + 1, math.MaxInt}
	for _, least := range edges {
		for _, most := range edges {
			r := times(least, most, set("a"))
			if least >= 0 && least <= 255 && (most == -1 || least <= most && most <= 255) {
				shows(t, modelShow(r), r)
			} else {
				wrong(t, r)
				wrong(t, cat(none, r))
			}
		}
	}
}

// P5.2: kinds that are none, anywhere.
func TestKinds(t *testing.T) {
	wrong(t, api.Re{})
	for kind := range 256 {
		if kind >= 1 && kind <= 7 {
			continue
		}
		r := api.Re{Kind: api.ReKind(kind)}
		wrong(t, r)
		wrong(t, times(0, -1, r))
		wrong(t, cat(none, r))
		wrong(t, alt(r, none))
		r.Set = set("a").Set
		wrong(t, r)
		r = api.Re{Kind: api.ReKind(kind), Kids: []api.Re{none, none}}
		wrong(t, r)
		r = api.Re{Kind: api.ReKind(kind), Max: -1, Kids: []api.Re{none}}
		wrong(t, r)
	}
}

// P5.2: a kid that is not right, at each place.
func TestWrongKids(t *testing.T) {
	bad := []api.Re{{}, {Kind: 8}, cat(none), alt(none), cat(), alt(), {Kind: api.ReTimes}, times(1, 0, none), times(0, 256, none), {Kind: api.ReNone, Min: 1}, {Kind: api.ReBegin, Set: set("a").Set}, {Kind: api.ReSet, Kids: []api.Re{none}}}
	a := set("a")
	for _, r := range bad {
		wrong(t, r)
		wrong(t, cat(r, a, a))
		wrong(t, cat(a, r, a))
		wrong(t, cat(a, a, r))
		wrong(t, alt(r, a))
		wrong(t, alt(a, r))
		wrong(t, times(0, -1, r))
		wrong(t, cat(a, alt(a, times(0, -1, cat(a, r)))))
	}
}

// P5.2: as many levels as there may be, and one more.
func TestLevels(t *testing.T) {
	for name, around := range map[string]func(kid api.Re) api.Re{
		"times":  func(kid api.Re) api.Re { return times(0, -1, kid) },
		"first":  func(kid api.Re) api.Re { return cat(kid, none) },
		"last":   func(kid api.Re) api.Re { return cat(none, kid) },
		"way":    func(kid api.Re) api.Re { return alt(kid, begin) },
		"middle": func(kid api.Re) api.Re { return alt(end, kid, end) },
	} {
		for _, kid := range []api.Re{none, begin, set("a")} {
			for _, levels := range []int{1, 2, 199, 200} {
				r := nested(levels, kid, around)
				if !Right(r) {
					t.Errorf("%d levels by %s are not right", levels, name)
				}
				shows(t, modelShow(r), r)
			}
			for _, levels := range []int{201, 202, 400, 5000} {
				wrong(t, nested(levels, kid, around))
			}
		}
	}
}

// P5.2: as many trees as there may be, and one more.
func TestTrees(t *testing.T) {
	row := func(kid api.Re, n int) []api.Re {
		kids := make([]api.Re, n)
		for i := range kids {
			kids[i] = kid
		}
		return kids
	}
	for _, kid := range []api.Re{none, begin, set("a"), not("a"), times(0, -1, set("b")), cat(none, end), alt(end, set("c"), end, begin, none)} {
		each := modelTrees(kid)
		n := (mostTrees - 1) / each
		rest := row(none, mostTrees-1-n*each)
		for _, kind := range []api.ReKind{api.ReCat, api.ReAlt} {
			r := api.Re{Kind: kind, Kids: append(row(kid, n), rest...)}
			if !Right(r) || modelTrees(r) != mostTrees {
				t.Errorf("%d trees of %d are not right", modelTrees(r), each)
			}
			shows(t, modelShow(r), r)
			wrong(t, times(0, -1, r))
			wrong(t, alt(r, none))
			r.Kids = append(r.Kids, none)
			wrong(t, r)
		}
	}
	wrong(t, cat(row(none, 1<<17)...))
	// 99 trees of 100, and 100 ahead of them: 10000 in two levels of lists.
	r := cat(row(alt(row(none, 99)...), 99)...)
	r.Kids = append(r.Kids, row(none, 99)...)
	if !Right(r) || modelTrees(r) != mostTrees {
		t.Error("trees in two levels are not right", modelTrees(r))
	}
	r.Kids = append(r.Kids, none)
	wrong(t, r)
}

// P5.2, R1: trees that have each other's kids, or are their own, end too.
func TestTreesWithoutEnd(t *testing.T) {
	r := set("a")
	for range 12 {
		r = cat(r, r)
	}
	if !Right(r) {
		t.Error("8191 trees that share their kids are not right")
	}
	shows(t, modelShow(r), r)
	for range 180 {
		r = cat(r, r)
		wrong(t, r)
	}
	for _, kind := range []api.ReKind{api.ReCat, api.ReAlt, api.ReTimes} {
		own := api.Re{Kind: kind, Kids: make([]api.Re, 2)}
		if kind == api.ReTimes {
			own.Kids = own.Kids[:1]
		}
		for i := range own.Kids {
			own.Kids[i] = own
		}
		wrong(t, own)
	}
}
