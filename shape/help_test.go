package shape

import (
	"slices"
	"strconv"
	"strings"
	"testing"

	"winnower/api"
)

var (
	none  = api.Re{Kind: api.ReNone}
	begin = api.Re{Kind: api.ReBegin}
	end   = api.Re{Kind: api.ReEnd}
)

// set tells the set of a text's bytes.
func set(members string) api.Re {
	r := api.Re{Kind: api.ReSet}
	for i := range len(members) {
		r.Set[members[i]/64] |= 1 << (members[i] % 64)
	}
	return r
}

// not tells the set of all bytes but a text's.
func not(members string) api.Re {
	r := set(members)
	for i := range r.Set {
		r.Set[i] ^= 1<<64 - 1
	}
	return r
}

func cat(kids ...api.Re) api.Re {
	return api.Re{Kind: api.ReCat, Kids: kids}
}

func alt(kids ...api.Re) api.Re {
	return api.Re{Kind: api.ReAlt, Kids: kids}
}

func times(least, most int, kid api.Re) api.Re {
	return api.Re{Kind: api.ReTimes, Min: least, Max: most, Kids: []api.Re{kid}}
}

// chars tells the bytes of a text, one behind the other.
func chars(text string) api.Re {
	if len(text) == 1 {
		return set(text)
	}
	var kids []api.Re
	for i := range len(text) {
		kids = append(kids, set(text[i:i+1]))
	}
	return cat(kids...)
}

// bytesOf tells the bytes from the first to the last one.
func bytesOf(first, last int) string {
	var b []byte
	for ; first <= last; first++ {
		b = append(b, byte(first))
	}
	return string(b)
}

// nested tells a tree of so many levels, each made by around.
func nested(levels int, kid api.Re, around func(kid api.Re) api.Re) api.Re {
	for range levels - 1 {
		kid = around(kid)
	}
	return kid
}

func same(r, s api.Re) bool {
	return r.Kind == s.Kind && r.Set == s.Set && r.Min == s.Min && r.Max == s.Max && slices.EqualFunc(r.Kids, s.Kids, same)
}

// clone tells a tree that shares no memory with r.
func clone(r api.Re) api.Re {
	var kids []api.Re
	for _, kid := range r.Kids {
		kids = append(kids, clone(kid))
	}
	r.Kids = kids
	return r
}

// brief keeps what a failing test tells short.
func brief(s string) string {
	if len(s) < 200 {
		return strconv.Quote(s)
	}
	return strconv.Quote(s[:90]) + ".." + strconv.Quote(s[len(s)-90:]) + " of " + strconv.Itoa(len(s)) + " bytes"
}

// tell tells a tree, right or not.
func tell(r api.Re) string {
	var out strings.Builder
	tellTo(&out, r, 10)
	if s := out.String(); len(s) > 200 {
		return s[:200] + ".."
	}
	return out.String()
}

func tellTo(out *strings.Builder, r api.Re, levels int) {
	out.WriteString(strconv.Itoa(int(r.Kind)))
	if r.Set != (api.Set{}) {
		out.WriteByte(' ')
		for _, word := range r.Set {
			out.WriteString(strconv.FormatUint(word, 16) + ".")
		}
	}
	if r.Min != 0 || r.Max != 0 {
		out.WriteString(" " + strconv.Itoa(r.Min) + ":" + strconv.Itoa(r.Max))
	}
	if levels < 1 || out.Len() > 1000 {
		return
	}
	for _, kid := range r.Kids {
		out.WriteString(" (")
		tellTo(out, kid, levels-1)
		out.WriteByte(')')
	}
}

// says says that a text is a pattern of a tree, which is right.
func says(t *testing.T, text string, want api.Re) {
	t.Helper()
	r, err := Parse(text)
	if err != api.OK || !same(r, want) {
		t.Errorf("Parse(%s) = %s, %d; want %s", brief(text), tell(r), err, tell(want))
	}
	if !Right(r) {
		t.Errorf("Parse(%s) is not right: %s", brief(text), tell(r))
	}
}

// fails says that a text has an error, and no tree beside it.
func fails(t *testing.T, want api.Errno, texts ...string) {
	t.Helper()
	for _, text := range texts {
		if r, err := Parse(text); err != want || !same(r, api.Re{}) {
			t.Errorf("Parse(%s) = %s, %d; want error %d", brief(text), tell(r), err, want)
		}
	}
}

// shows says that a tree is told by a text, of which Parse tells it.
func shows(t *testing.T, want string, r api.Re) {
	t.Helper()
	text, err := Show(r)
	if err != api.OK || text != want {
		t.Errorf("Show(%s) = %s, %d; want %s", tell(r), brief(text), err, brief(want))
	}
	if back, err := Parse(text); err != api.OK || !same(back, r) {
		t.Errorf("Parse(%s) = %s, %d; want %s", brief(text), tell(back), err, tell(r))
	}
}

// wrong says that a tree is not right, and not shown.
func wrong(t *testing.T, r api.Re) {
	t.Helper()
	if Right(r) {
		t.Errorf("Right(%s)", tell(r))
	}
	if text, err := Show(r); text != "" || err != api.ErrPattern {
		t.Errorf("Show(%s) = %s, %d; want error %d", tell(r), brief(text), err, api.ErrPattern)
	}
}
