package shape

import (
	"strings"

	"winnower/api"
	"winnower/octets"
)

// parser goes through a pattern from the left. Groups that have not ended stand
// in a list: a text may open far more of them than calls should be nested.
type parser struct {
	text   string
	at     int
	groups []group // the first one is the whole pattern
}

// group is what was read of a group so far.
type group struct {
	ways   []api.Re
	pieces []api.Re // of the way that has not ended
}

// parsed tells the tree of a text, however great it is; its fault goes up.
func parsed(text string) api.Re {
	p := &parser{text: text, groups: make([]group, 1)}
	for p.at < len(p.text) {
		p.step()
	}
	must(len(p.groups) == 1)
	return p.inner().tree()
}

// must lets a fault go up to Parse, unless what is asked for holds.
func must(holds bool) {
	if !holds {
		panic(api.ErrPattern)
	}
}

// step takes what the text goes on with.
func (p *parser) step() {
	g := p.inner()
	switch {
	case p.takes("|"):
		g.endWay()
	case p.takes("("):
		p.groups = append(p.groups, group{})
	case p.takes(")"):
		p.endGroup()
	default:
		if least, most, found := p.repeat(); found {
			g.repeat(least, most)
		} else {
			g.pieces = append(g.pieces, p.atom())
		}
	}
}

// inner is the group that was opened last.
func (p *parser) inner() *group {
	return &p.groups[len(p.groups)-1]
}

// endGroup makes the inner group a piece of the one around it.
func (p *parser) endGroup() {
	last := len(p.groups) - 1
	must(last > 0)
	tree := p.inner().tree()
	p.groups = p.groups[:last]
	g := p.inner()
	g.pieces = append(g.pieces, tree)
}

func (g *group) endWay() {
	g.ways = append(g.ways, joined(api.ReCat, g.pieces))
	g.pieces = nil
}

// tree ends the group, and tells what it says.
func (g *group) tree() api.Re {
	g.endWay()
	return joined(api.ReAlt, g.ways)
}

// repeat puts a repeat around the last piece.
func (g *group) repeat(least, most int) {
	must(len(g.pieces) > 0)
	last := &g.pieces[len(g.pieces)-1]
	*last = api.Re{Kind: api.ReTimes, Min: least, Max: most, Kids: []api.Re{*last}}
}

// joined tells one tree of parts: it needs a kind of its own for two of them.
func joined(kind api.ReKind, parts []api.Re) api.Re {
	switch len(parts) {
	case 0:
		return api.Re{Kind: api.ReNone}
	case 1:
		return parts[0]
	}
	return api.Re{Kind: kind, Kids: parts}
}

// repeat takes a repeat, if one stands here.
func (p *parser) repeat() (least, most int, found bool) {
	switch {
	case p.takes("*"):
		return 0, endless, true
	case p.takes("+"):
		return 1, endless, true
	case p.takes("?"):
		return 0, 1, true
	case p.stands("{") && p.digit(p.at+1):
		p.at++
		least, most = p.interval()
		return least, most, true
	}
	return 0, 0, false
}

// interval takes an interval behind its {.
func (p *parser) interval() (least, most int) {
	least = p.number()
	most = least
	if p.takes(",") {
		most = endless
		if p.digit(p.at) {
			most = p.number()
			must(least <= most)
		}
	}
	must(p.takes("}"))
	return least, most
}

// number takes up to three digits. A fourth one is left, and ends no interval.
func (p *parser) number() int {
	n := 0
	for first := p.at; p.at < first+3 && p.digit(p.at); p.at++ {
		n = 10*n + int(p.text[p.at]-'0')
	}
	must(n <= api.MaxTimes)
	return n
}

// atom takes an atom that is no group.
func (p *parser) atom() api.Re {
	switch {
	case p.takes("^"):
		return api.Re{Kind: api.ReBegin}
	case p.takes("$"):
		return api.Re{Kind: api.ReEnd}
	case p.takes("."):
		return api.Re{Kind: api.ReSet, Set: others(api.Set{})}
	case p.takes("["):
		return api.Re{Kind: api.ReSet, Set: p.bracket()}
	}
	b := p.literal()
	return api.Re{Kind: api.ReSet, Set: span(b, b)}
}

// literal takes a byte, as it stands or behind a backslash.
func (p *parser) literal() byte {
	b := p.next()
	if b == '\\' {
		return marked(p.next())
	}
	return b
}

// next takes whatever byte stands here.
func (p *parser) next() byte {
	must(p.at < len(p.text))
	b := p.text[p.at]
	p.at++
	return b
}

// marked tells the byte that a byte stands for behind a backslash.
func marked(b byte) byte {
	switch b {
	case 'a':
		return '\a'
	case 'b':
		return '\b'
	case 'f':
		return '\f'
	case 'n':
		return '\n'
	case 'r':
		return '\r'
	case 't':
		return '\t'
	case 'v':
		return '\v'
	}
	return b
}

func (p *parser) stands(word string) bool {
	return strings.HasPrefix(p.text[p.at:], word)
}

// takes takes a word, if it stands here.
func (p *parser) takes(word string) bool {
	if !p.stands(word) {
		return false
	}
	p.at += len(word)
	return true
}

func (p *parser) digit(at int) bool {
	return at < len(p.text) && octets.Digit(p.text[at])
}
