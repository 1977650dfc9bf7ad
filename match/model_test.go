package match

import (
	"math/big"
	"strconv"
	"strings"
	"testing"

	"winnower/api"
	"winnower/shape"
)

// mostSize is the limit, as the chapter has it.
const mostSize = 20000

// places are places of a text of at most 62 bytes: bit i of place i.
type places uint64

// modelTakes tells what a tree takes from any of some places on, word by word
// as the chapter has it.
func modelTakes(r api.Re, s string, from places) places {
	switch r.Kind {
	case api.ReNone:
		return from
	case api.ReSet:
		var to places
		for i := range len(s) {
			if from>>i&1 == 1 && r.Set[s[i]/64]>>(s[i]%64)&1 == 1 {
				to |= 1 << (i + 1)
			}
		}
		return to
	case api.ReBegin:
		return from & 1
	case api.ReEnd:
		return from & (1 << len(s))
	case api.ReCat:
		for _, kid := range r.Kids {
			from = modelTakes(kid, s, from)
		}
		return from
	case api.ReAlt:
		var to places
		for _, kid := range r.Kids {
			to |= modelTakes(kid, s, from)
		}
		return to
	}
	return modelTimes(r, s, from)
}

func modelTimes(r api.Re, s string, from places) places {
	var to places
	for n := 0; ; n++ {
		if n >= r.Min {
			// What is there already brings nothing new, however often.
			if r.Max < 0 && to|from == to && n > r.Min {
				return to
			}
			to |= from
		}
		if n == r.Max {
			return to
		}
		from = modelTakes(r.Kids[0], s, from)
	}
}

func modelFind(r api.Re, s string, from int) (at, n int, found bool) {
	for at := max(from, 0); from >= 0 && at <= len(s); at++ {
		to := modelTakes(r, s, 1<<at)
		for end := len(s); end >= at; end-- {
			if to>>end&1 == 1 {
				return at, end - at, true
			}
		}
	}
	return 0, 0, false
}

func modelSize(r api.Re) *big.Int {
	size := big.NewInt(1)
	for _, kid := range r.Kids {
		times := 1
		if r.Kind == api.ReTimes {
			times = max(r.Min, r.Max, 1)
		}
		size.Add(size, new(big.Int).Mul(big.NewInt(int64(times)), modelSize(kid)))
	}
	return size
}

// agrees holds a matcher against the model, on a text from each place on, and
// from some that the text doesn't have.
func agrees(t *testing.T, m *Matcher, r api.Re, s string) {
	t.Helper()
	for from := -1; from <= len(s)+1; from++ {
		at, n, found := m.Find(s, from)
		wantAt, wantN, want := modelFind(r, s, from)
		if at != wantAt || n != wantN || found != want {
			t.Fatalf("Find(%q, %d) of %s = %d, %d, %v; want %d, %d, %v", s, from, tell(r), at, n, found, wantAt, wantN, want)
		}
	}
	if _, _, want := modelFind(r, s, 0); m.Has(s) != want {
		t.Fatalf("Has(%q) of %s = %v", s, tell(r), !want)
	}
}

// made tells a matcher of a tree that may have one.
func made(t *testing.T, r api.Re) *Matcher {
	t.Helper()
	m, err := New(r)
	if err != api.OK || m == nil {
		t.Fatalf("New(%s) = %v, %d", tell(r), m, err)
	}
	return m
}

// of tells a matcher of a pattern.
func of(t *testing.T, pattern string) *Matcher {
	t.Helper()
	return made(t, tree(t, pattern))
}

func tree(t *testing.T, pattern string) api.Re {
	t.Helper()
	r, err := shape.Parse(pattern)
	if err != api.OK {
		t.Fatalf("Parse(%s): %d", brief(pattern), err)
	}
	return r
}

// refused says that a tree has no matcher, for an error.
func refused(t *testing.T, want api.Errno, r api.Re) {
	t.Helper()
	if m, err := New(r); m != nil || err != want {
		t.Errorf("New(%s) = %v, %d; want error %d", tell(r), m != nil, err, want)
	}
}

// tell tells a tree by its pattern, if it is right.
func tell(r api.Re) string {
	text, err := shape.Show(r)
	if err != api.OK {
		return "a tree of kind " + strconv.Itoa(int(r.Kind)) + " that is not right"
	}
	return brief(text)
}

// brief keeps what a failing test tells short.
func brief(s string) string {
	if len(s) < 200 {
		return strconv.Quote(s)
	}
	return strconv.Quote(s[:90]) + ".. of " + strconv.Itoa(len(s)) + " bytes"
}

var (
	none  = api.Re{Kind: api.ReNone}
	begun = api.Re{Kind: api.ReBegin}
	ended = api.Re{Kind: api.ReEnd}
)

// set tells the set of a text's bytes.
func set(members string) api.Re {
	r := api.Re{Kind: api.ReSet}
	for i := range len(members) {
		r.Set[members[i]/64] |= 1 << (members[i] % 64)
	}
	return r
}

func cat(kids ...api.Re) api.Re {
	return api.Re{Kind: api.ReCat, Kids: kids}
}

func alt(kids ...api.Re) api.Re {
	return api.Re{Kind: api.ReAlt, Kids: kids}
}

func times(least, most int, kid api.Re) api.Re {
	return api.Re{Kind: api.ReTimes, Min: least, Max: most, Kids: []api.Re{kid}}
}

// row tells so many kids, all of them the same tree.
func row(kid api.Re, n int) []api.Re {
	kids := make([]api.Re, n)
	for i := range kids {
		kids[i] = kid
	}
	return kids
}

// around tells a tree with so many levels of a ReTimes around it.
func around(levels, least, most int, r api.Re) api.Re {
	for range levels {
		r = times(least, most, r)
	}
	return r
}

// texts hands all texts of some letters, of so many bytes at most, to tell.
func texts(letters string, most int, tell func(s string)) {
	var longer func(s string)
	longer = func(s string) {
		tell(s)
		for i := range len(letters) {
			if len(s) < most {
				longer(s + letters[i:i+1])
			}
		}
	}
	longer("")
}

var long = strings.Repeat("a", api.MaxText)
