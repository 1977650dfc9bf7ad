package lex

import (
	"strings"
	"testing"

	"winnower/api"
)

// Chapter 12, examples.
func TestExamples(t *testing.T) {
	text := "a +=1.5e3x"
	next(t, text, 0, false, api.Token{Kind: api.TName, S: "a", Line: 1, At: 0, End: 1})
	next(t, text, 1, false, api.Token{Kind: api.TSign, S: "+=", Line: 1, At: 2, End: 4})
	next(t, text, 4, false, api.Token{Kind: api.TNum, S: "1.5e3", Line: 1, At: 4, End: 9})
	next(t, text, 9, false, api.Token{Kind: api.TName, S: "x", Line: 1, At: 9, End: 10})
	next(t, "f(", 0, false, api.Token{Kind: api.TFunc, S: "f", Line: 1, End: 1})
	next(t, "f (", 0, false, api.Token{Kind: api.TName, S: "f", Line: 1, End: 1})
	next(t, `/a\/b/`, 0, true, api.Token{Kind: api.TRe, S: "a/b", Line: 1, End: 6})
	next(t, `/a\/b/`, 0, false, api.Token{Kind: api.TSign, S: "/", Line: 1, End: 1})
	next(t, `"a\n\101"`, 0, false, api.Token{Kind: api.TStr, S: "a\nA", Line: 1, End: 9})
	rowBoth(t, "1.e", tok{api.TNum, "1."}, tok{api.TName, "e"})
}

// P12.2: ErrArg, unless the place is from 0 to the text's length.
func TestPlaces(t *testing.T) {
	for _, text := range []string{"", "a", "\n\n", "@", "\"", "a b c", strings.Repeat(" ", mostSource)} {
		for _, re := range both {
			for _, at := range outside(len(text)) {
				faults(t, text, at, re, api.ErrArg, 0)
			}
			line := 1 + strings.Count(text, "\n")
			next(t, text, len(text), re, api.Token{Kind: api.TEnd, Line: line, At: len(text), End: len(text)})
		}
	}
	next(t, "", 0, false, api.Token{Kind: api.TEnd, Line: 1})
	next(t, "a", 0, false, api.Token{Kind: api.TName, S: "a", Line: 1, End: 1})
	next(t, "a b", 2, false, api.Token{Kind: api.TName, S: "b", Line: 1, At: 2, End: 3})
}

// P12.2: a source of 65536 bytes is none too long, one of a byte more is.
func TestLength(t *testing.T) {
	if api.MaxSource != mostSource {
		t.Error(api.MaxSource)
	}
	for _, one := range []struct {
		byte string
		want api.Token
	}{
		{"a", api.Token{Kind: api.TName, S: strings.Repeat("a", mostSource), Line: 1, End: mostSource}},
		{"1", api.Token{Kind: api.TNum, S: strings.Repeat("1", mostSource), Line: 1, End: mostSource}},
		{" ", api.Token{Kind: api.TEnd, Line: 1, At: mostSource, End: mostSource}},
		{"#", api.Token{Kind: api.TEnd, Line: 1, At: mostSource, End: mostSource}},
		{"\\\n", api.Token{Kind: api.TEnd, Line: 1 + mostSource/2, At: mostSource, End: mostSource}},
		{"\n", api.Token{Kind: api.TLine, Line: 1, End: 1}},
		{"+", api.Token{Kind: api.TSign, S: "++", Line: 1, End: 2}},
	} {
		text := strings.Repeat(one.byte, mostSource/len(one.byte))
		for _, re := range both {
			next(t, text, 0, re, one.want)
			next(t, text, mostSource, re, api.Token{Kind: api.TEnd, Line: 1 + strings.Count(text, "\n"), At: mostSource, End: mostSource})
			for _, more := range []string{" ", "\n", "@", text} {
				for _, at := range append(outside(mostSource+len(more)), 0, 1, mostSource, mostSource+1) {
					faults(t, text+more, at, re, api.ErrLong, 0)
				}
			}
		}
	}
	inside := strings.Repeat("x", mostSource-2)
	textOf(t, inside[:mostSource-6], inside[:mostSource-6])
	whole(t, "\""+inside+"\"", false, api.TStr, inside)
	whole(t, "/"+inside+"/", true, api.TRe, inside)
	whole(t, "\""+strings.Repeat(`\"`, mostSource/2-1)+"\"", false, api.TStr, strings.Repeat(`"`, mostSource/2-1))
	whole(t, "/"+strings.Repeat(`\/`, mostSource/2-1)+"/", true, api.TRe, strings.Repeat(`/`, mostSource/2-1))
	faults(t, strings.Repeat("\n", mostSource-1)+"@", mostSource-1, false, api.ErrToken, mostSource)
	faults(t, strings.Repeat("\\\n", mostSource/2-1)+"\"\"\"", 0, false, api.ErrLong, 0)
	faults(t, strings.Repeat("\\\n", mostSource/2-1)+" \"", 0, false, api.ErrToken, mostSource/2)
}

// R3: what a token says is new, and shares no memory with the source, nor with
// what was told else.
func TestSaysAreNew(t *testing.T) {
	source := "name = func1(in, 12.5) \"text\" \"te\\nxt\" /pattern/ /pat\\/tern/ += printf\n"
	for at := range len(source) + 1 {
		for _, re := range both {
			one, _ := Next(source, at, re)
			other, _ := Next(source, at, re)
			if one != other {
				t.Errorf("at %d: %+v, %+v", at, one, other)
			}
			if within(one.S, source) || within(one.S, other.S) {
				t.Errorf("what %+v says is of memory that was there", one)
			}
		}
	}
}

// R4: what was asked ahead of a call turns nothing.
func TestCallsByThemselves(t *testing.T) {
	sources := []string{"\"a", "a b", "/a/ b", "1e5", "@", "f(", "\n\n\\\n x"}
	for _, first := range sources {
		for _, then := range sources {
			for _, re := range both {
				want, wantFault := Next(then, 0, re)
				Next(first, 0, !re)
				Line(first, 1)
				if token, fault := Next(then, 0, re); token != want || fault != wantFault {
					t.Errorf("behind %q %q is %+v, %+v", first, then, token, fault)
				}
			}
		}
	}
}
