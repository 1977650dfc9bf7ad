// Package octets is layer 1: bytes, one by one, and parts of texts.
// See shared/doc/01-octets.md.
package octets

import "strings"

// caseGap is what a small letter has more than its capital one.
const caseGap = 'a' - 'A'

// Blank says whether b parts words within a line.
func Blank(b byte) bool {
	return b == ' ' || b == '\t'
}

// Space says whether b is a blank, or one of the bytes that end or feed lines.
func Space(b byte) bool {
	return b == ' ' || within(b, '\t', '\r')
}

// Digit says whether b is one of the ten digits.
func Digit(b byte) bool {
	return within(b, '0', '9')
}

// Letter says whether b is a letter of ASCII, capital or small.
func Letter(b byte) bool {
	return capital(b) || small(b)
}

// Lower tells s with small letters for capital ones.
func Lower(s string) string {
	return turned(s, func(b byte) byte {
		if capital(b) {
			return b + caseGap
		}
		return b
	})
}

// Upper tells s with capital letters for small ones.
func Upper(s string) string {
	return turned(s, func(b byte) byte {
		if small(b) {
			return b - caseGap
		}
		return b
	})
}

// Index tells the first place of t in s, from 1 on; 0 if there is none.
func Index(s, t string) int {
	// The library finds no bytes at the very begin; here they are nowhere.
	if t == "" {
		return 0
	}
	return strings.Index(s, t) + 1
}

// Cut tells the bytes of s from the place from on (the first place is 1), n of
// them, as far as there are such places.
func Cut(s string, from, n int) string {
	if n < 1 || from > len(s) {
		return ""
	}
	if from < 1 {
		// n - 1 is not below 0 and from not above it: their sum cannot wrap.
		n, from = n-1+from, 1
	}
	// from + n may wrap, so n is held against the bytes that are left.
	n = max(0, min(n, len(s)-from+1))
	// An answer shares no memory with what was handed in, and a short part
	// shall not keep a long text.
	return strings.Clone(s[from-1 : from-1+n])
}

func within(b, first, last byte) bool {
	return first <= b && b <= last
}

func capital(b byte) bool {
	return within(b, 'A', 'Z')
}

func small(b byte) bool {
	return within(b, 'a', 'z')
}

// turned goes by bytes, not by runes: a text may hold any bytes.
func turned(s string, turn func(b byte) byte) string {
	out := make([]byte, len(s))
	for i := range out {
		out[i] = turn(s[i])
	}
	return string(out)
}
