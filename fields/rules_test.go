package fields

import (
	"slices"
	"strings"
	"testing"

	"winnower/api"
)

// noRecords are records that New did not answer.
func noRecords() map[string]*Record {
	stale := New("a b", false)
	stale.SetNF(3, " ")
	byValue, staleByValue := *New("a b", false), *stale
	overlaid := &Record{}
	*overlaid = *New("a b", true)
	left := New("a b", false)
	*left = Record{}
	other := New("a b", false)
	*other = *stale
	return map[string]*Record{"nil": nil, "zero": {}, "new": new(Record), "by value": &byValue, "stale, by value": &staleByValue, "overlaid": overlaid, "laid empty": left, "laid over by another one": other}
}

// R5: of no record ErrNil, ahead of all other errors.
func TestNoRecord(t *testing.T) {
	for name, r := range noRecords() {
		for range 2 {
			for _, fs := range []string{" ", "", ":", noPattern, tooLong} {
				for _, i := range append([]int{1, 2, mostFields}, badNumbers...) {
					asksFail(t, r, fs, i, api.ErrNil)
				}
				if err := r.SetNF(0, fs); err != api.ErrNil {
					t.Errorf("SetNF(0) = %d", err)
				}
			}
			hasNoText(t, r, "-", usual, api.ErrNil)
			hasNoText(t, r, "-", wrong, api.ErrNil)
			if err := r.Set("x", true); err != api.ErrNil {
				t.Errorf("Set = %d", err)
			}
			wasSplit(t, r, 0)
		}
		if t.Failed() {
			t.Fatalf("of the record %s", name)
		}
	}
}

// R5: what is asked of a copy by value does not turn the record.
func TestByValue(t *testing.T) {
	r := New("a b", false)
	c := *r
	c.Set("x", true)
	c.SetField(1, str("x"), " ")
	c.SetNF(1, " ")
	wasSplit(t, r, 0)
	hasText(t, r, "-", usual, "a b")
	hasFields(t, r, " ", strs("a", "b")...)
}

// R1: an older value that is laid back over a record leaves one of which all
// calls end.
func TestLaidBack(t *testing.T) {
	r := New("a b", false)
	hasFields(t, r, " ", strs("a", "b")...)
	for n := range 5 {
		old := *r
		setsNF(t, r, 100*n, " ")
		sets(t, r, 50, num(0.5), " ")
		*r = old
		r.SetField(9, str("x"), " ")
		r.Text("-", usual)
		setsNF(t, r, 1, " ")
		*r = old
		for i := range 120 {
			r.Field(i, " ")
		}
		r.NF(" ")
		setsText(t, r, "a b", false)
		hasFields(t, r, " ", strs("a", "b")...)
	}
}

// R3: what Split handed out is the caller's.
func TestPartsAreNew(t *testing.T) {
	text := strings.Repeat("some words\n", 3)
	for _, fs := range []string{" ", "", "w", "wo", "xx", "\n"} {
		for _, lines := range []bool{false, true} {
			l, _ := Split(text, fs, lines)
			want := slices.Clone(l)
			for i := range l {
				if within(l[i], text) {
					t.Errorf("the field %q by %q is of the text's memory", l[i], fs)
				}
				l[i] = "changed"
			}
			_ = append(l, "more")
			splits(t, text, fs, lines, want...)
		}
	}
	r := New(text, false)
	hasFields(t, r, "\n", strs("some words", "some words", "some words", "")...)
	l, _ := Split(text, "\n", false)
	l[0] = "changed"
	isField(t, r, 1, "\n", str("some words"))
}

// R3: no text that is handed in is kept, and what is handed out is new.
func TestTextsAreNew(t *testing.T) {
	long := strings.Repeat("some words ", 9)
	r := New(long[5:10], false)
	inside := func(s string) {
		t.Helper()
		for _, kept := range append([]string{long, r.text}, kept(r)...) {
			if within(s, kept) {
				t.Errorf("%q is of memory that was handed in, or stays", s)
			}
		}
	}
	answers := func() {
		t.Helper()
		s, _ := r.Text("-", usual)
		inside(s)
		for i := range 4 {
			c, _ := r.Field(i, " ")
			inside(c.S)
		}
		for _, s := range append(kept(r), r.text) {
			if within(s, long) {
				t.Errorf("%q is kept in the memory that was handed in", s)
			}
		}
	}
	answers()
	setsText(t, r, long[:10], true)
	answers()
	sets(t, r, 2, str(long[3:9]), " ")
	answers()
	setsNF(t, r, 1, " ")
	answers()
}

// kept tells the texts of a record's fields.
func kept(r *Record) []string {
	var all []string
	for _, c := range r.fields {
		all = append(all, c.S)
	}
	return all
}

// What is kept is no more than is needed: no text of a stale record, no field
// that is gone.
func TestKeepsNoMore(t *testing.T) {
	r := New("a b c", false)
	sets(t, r, 1, str("x"), " ")
	if r.text != "" {
		t.Errorf("a stale record keeps %q", r.text)
	}
	setsNF(t, r, 1, " ")
	for _, c := range r.fields[:cap(r.fields)][1:] {
		if c != (api.Cell{}) {
			t.Errorf("a field that is gone is kept: %+v", c)
		}
	}
	setsText(t, r, "y", false)
	if r.fields != nil {
		t.Errorf("an unsplit record keeps %+v", r.fields)
	}
}

// R4: records are each its own.
func TestTwoRecords(t *testing.T) {
	one, two := New("a b", false), New("a b", false)
	sets(t, one, 1, str("x"), " ")
	hasText(t, two, "-", usual, "a b")
	wasSplit(t, two, 0)
	setsNF(t, two, 3, " ")
	hasText(t, one, "-", usual, "x-b")
	hasText(t, two, "-", usual, "a-b-")
}
