package parse

import (
	"winnower/api"
)

// Which parts a for has, as its N has it.
const (
	withInit      = 1
	withCondition = 2
	withStep      = 4
)

func (p *parser) forStmt() api.Stmt {
	p.take()
	p.must(sign("("))
	s, ok := p.forIn()
	if !ok {
		s = p.forParts()
	}
	p.must(sign(")"))
	s.Body = p.part()
	return s
}

// forIn takes what a for goes through, if that stands there, up to the
// parenthesis: the token behind that is no part of what is looked at ahead.
func (p *parser) forIn() (api.Stmt, bool) {
	s := api.Stmt{Kind: api.SForIn}
	ok := p.fits(func() bool {
		s.S = p.name()
		p.must(word("in"))
		s.Exprs = []api.Expr{{Kind: api.XVar, S: p.name()}}
		return p.next() == sign(")")
	})
	return s, ok
}

// forParts takes a for's init, condition and step, those that are there.
func (p *parser) forParts() api.Stmt {
	s := api.Stmt{Kind: api.SFor}
	p.forPart(&s, withInit)
	p.must(sign(";"))
	p.lines()
	p.forPart(&s, withCondition)
	p.must(sign(";"))
	p.lines()
	p.forPart(&s, withStep)
	return s
}

func (p *parser) forPart(s *api.Stmt, which int) {
	if p.next() == sign(";") || p.next() == sign(")") {
		return
	}
	s.N |= which
	if part := p.exprStmt(); which == withCondition {
		s.Exprs = part.Exprs
	} else {
		s.Else = append(s.Else, part)
	}
}
