package shape

import (
	"strconv"
	"strings"

	"winnower/api"
)

// signs are the bytes that do not stand for themselves.
const signs = `\.^$[()|*+?`

// bracketSigns are those that don't in a bracket, or not everywhere.
const bracketSigns = `\][^-`

// write tells a right tree.
func write(out *strings.Builder, r api.Re) {
	switch r.Kind {
	case api.ReNone:
		// Its ( ) are its own: it has them as a kid and alone.
		out.WriteString("()")
	case api.ReSet:
		out.WriteString(setText(r.Set))
	case api.ReBegin:
		out.WriteByte('^')
	case api.ReEnd:
		out.WriteByte('$')
	case api.ReCat:
		for _, kid := range r.Kids {
			writeKid(out, r.Kind, kid)
		}
	case api.ReAlt:
		for i, kid := range r.Kids {
			if i > 0 {
				out.WriteByte('|')
			}
			writeKid(out, r.Kind, kid)
		}
	case api.ReTimes:
		writeKid(out, r.Kind, r.Kids[0])
		out.WriteString(repeatText(r.Min, r.Max))
	}
}

func writeKid(out *strings.Builder, parent api.ReKind, kid api.Re) {
	if !grouped(parent, kid.Kind) {
		write(out, kid)
		return
	}
	out.WriteByte('(')
	write(out, kid)
	out.WriteByte(')')
}

// grouped says whether a kid needs ( ) around what is told of it.
func grouped(parent, kid api.ReKind) bool {
	switch kid {
	case api.ReAlt:
		return true
	case api.ReCat:
		return parent != api.ReAlt
	case api.ReBegin, api.ReEnd:
		return parent == api.ReTimes
	}
	return false
}

// repeatText tells a repeat by its sign, or by numbers if it has none.
func repeatText(least, most int) string {
	switch {
	case least == 0 && most == endless:
		return "*"
	case least == 1 && most == endless:
		return "+"
	case least == 0 && most == 1:
		return "?"
	case most == endless:
		return "{" + strconv.Itoa(least) + ",}"
	case least == most:
		return "{" + strconv.Itoa(least) + "}"
	}
	return "{" + strconv.Itoa(least) + "," + strconv.Itoa(most) + "}"
}

func setText(s api.Set) string {
	switch size(s) {
	case byteCount:
		return "."
	case 1:
		var b byte
		runs(s, func(first, _ byte) { b = first })
		// A { is a byte or begins a repeat, as the byte behind it has it.
		if b != '{' && strings.IndexByte(signs, b) < 0 {
			return string([]byte{b})
		}
	}
	return bracketText(s)
}

func bracketText(s api.Set) string {
	out := []byte{'['}
	// A bracket has one thing at least: a set of no byte is told by the others.
	if n := size(s); n == 0 || n > byteCount/2 {
		out = append(out, '^')
		s = others(s)
	}
	put := func(b byte) {
		if strings.IndexByte(bracketSigns, b) >= 0 {
			out = append(out, '\\')
		}
		out = append(out, b)
	}
	runs(s, func(first, last byte) {
		put(first)
		// Of two bytes both are told; first + 1 may be no byte.
		if last-first > 1 {
			out = append(out, '-')
		}
		if last > first {
			put(last)
		}
	})
	return string(append(out, ']'))
}
