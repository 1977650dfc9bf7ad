package shape

import (
	"strings"

	"winnower/api"
	"winnower/octets"
)

// bracket takes a bracket behind its [.
func (p *parser) bracket() api.Set {
	not := p.takes("^")
	// The first thing may be a ], which ends the bracket from then on.
	s := p.thing()
	for !p.takes("]") {
		s = both(s, p.thing())
	}
	if not {
		return others(s)
	}
	return s
}

// thing takes a class, a byte or a range of a bracket.
func (p *parser) thing() api.Set {
	if p.takes("[:") {
		return all(p.class())
	}
	first := p.member()
	if !p.ranges() {
		return span(first, first)
	}
	p.at++
	last := p.member()
	must(first <= last)
	return span(first, last)
}

// ranges says whether a - stands here that makes a range of what is around it.
func (p *parser) ranges() bool {
	return p.stands("-") && p.at+1 < len(p.text) && p.text[p.at+1] != ']'
}

// member takes a byte of a bracket: one of a range's ends, or one alone.
func (p *parser) member() byte {
	must(!p.stands("[:") && !p.stands("[=") && !p.stands("[."))
	return p.literal()
}

// class takes a class behind its [: and tells what is in it.
func (p *parser) class() func(b byte) bool {
	name, _, ended := strings.Cut(p.text[p.at:], ":]")
	tell := classOf(name)
	must(ended && tell != nil)
	p.at += len(name) + len(":]")
	return tell
}

// classOf makes what tells a class's bytes; nothing, if no class has that name.
func classOf(name string) func(b byte) bool {
	switch name {
	case "alnum":
		return alnum
	case "alpha":
		return octets.Letter
	case "blank":
		return octets.Blank
	case "cntrl":
		return func(b byte) bool { return b < ' ' || b == 127 }
	case "digit":
		return octets.Digit
	case "graph":
		return graph
	case "lower":
		return func(b byte) bool { return octets.Letter(b) && b >= 'a' }
	case "print":
		return func(b byte) bool { return b == ' ' || graph(b) }
	case "punct":
		return func(b byte) bool { return graph(b) && !alnum(b) }
	case "space":
		return octets.Space
	case "upper":
		return func(b byte) bool { return octets.Letter(b) && b < 'a' }
	case "xdigit":
		return func(b byte) bool { return alnum(b) && (b <= 'F' || 'a' <= b && b <= 'f') }
	}
	return nil
}

func alnum(b byte) bool {
	return octets.Letter(b) || octets.Digit(b)
}

func graph(b byte) bool {
	return ' ' < b && b < 127
}
