package lex

import (
	"strings"
)

// run tells the place behind all that stands in a row from at on of which goesOn
// holds. What a range over a text tells of bytes from 128 on, one by one or some
// together, is never below 128: each byte below is told as it is.
func run(text string, at int, goesOn func(r rune) bool) int {
	for i, r := range text[at:] {
		if !goesOn(r) {
			return at + i
		}
	}
	return len(text)
}

// oneOf tells the place behind one of some bytes, or at, if none of them stands
// there.
func oneOf(text string, at int, bytes string) int {
	if at < len(text) && strings.IndexByte(bytes, text[at]) >= 0 {
		return at + 1
	}
	return at
}

// passOver tells the place behind the blanks, remarks and joined lines that stand
// from at on.
func passOver(text string, at int) int {
	for {
		from := at
		at = run(text, at, func(r rune) bool { return r == ' ' || r == '\t' || r == '\r' })
		if strings.HasPrefix(text[at:], "#") {
			at = run(text, at, func(r rune) bool { return r != '\n' })
		}
		if strings.HasPrefix(text[at:], "\\\n") {
			at += 2
		}
		if at == from {
			return at
		}
	}
}

// number tells the place behind the number that stands at a place.
func number(text string, at int) int {
	end := run(text, at, isDigit)
	if strings.HasPrefix(text[end:], ".") {
		point := end
		end = run(text, point+1, isDigit)
		if point == at && end == point+1 {
			return at
		}
	}
	if end == at {
		return at
	}
	return power(text, end)
}

// power tells the place behind the power of ten that stands behind a number's
// digits.
func power(text string, at int) int {
	e := oneOf(text, at, "eE")
	if e == at {
		return at
	}
	digits := oneOf(text, e, "+-")
	if end := run(text, digits, isDigit); end > digits {
		return end
	}
	return at
}

// name tells the place behind the name that stands at a place where no number
// does: so no digit is its first byte.
func name(text string, at int) int {
	return run(text, at, func(r rune) bool { return isLetter(r) || isDigit(r) })
}

func isDigit(r rune) bool {
	return '0' <= r && r <= '9'
}

func isLetter(r rune) bool {
	return 'a' <= r && r <= 'z' || 'A' <= r && r <= 'Z' || r == '_'
}
