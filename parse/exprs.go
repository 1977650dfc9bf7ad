package parse

import (
	"winnower/api"
)

// expr takes an expression, whatever binds least.
func (p *parser) expr() api.Expr {
	return nested(p, func() api.Expr {
		first := p.next()
		e := p.cond()
		if isBare(first, e) {
			if o, ok := p.operation(p.assigns); ok {
				return o.of(e, p.expr())
			}
		}
		return e
	})
}

// isBare says whether an expression is an lvalue that stands by itself, by the
// token that it begins with: in parentheses it begins with one of them.
func isBare(first mark, e api.Expr) bool {
	if first == sign("(") {
		return false
	}
	return e.Kind == api.XVar || e.Kind == api.XIndex || e.Kind == api.XField
}

func (p *parser) cond() api.Expr {
	e := p.or()
	if !p.takes(sign("?")) {
		return e
	}
	p.lines()
	then := p.expr()
	p.must(sign(":"))
	p.lines()
	return api.Expr{Kind: api.XCond, Kids: []api.Expr{e, then, p.expr()}}
}

// raised takes what stands behind the signs of a unary, or of a power: these are
// one rule.
func (p *parser) raised() api.Expr {
	e := p.post()
	if p.takes(sign("^")) {
		return api.Expr{Kind: api.XBin, S: "^", Kids: []api.Expr{e, p.unary()}}
	}
	return e
}

func (p *parser) post() api.Expr {
	first := p.next()
	e := p.stepped()
	if isBare(first, e) {
		if o, ok := p.operation(p.after); ok {
			return o.of(e)
		}
	}
	return e
}

// stepped takes a primary, or ++ or -- ahead of an lvalue.
func (p *parser) stepped() api.Expr {
	if o, ok := p.operation(p.ahead); ok {
		return o.of(p.lvalue())
	}
	return p.primary()
}

func (p *parser) lvalue() api.Expr {
	if p.next() == sign("$") {
		return p.field()
	}
	return p.variable()
}

// into takes an lvalue, if one stands next, where one may.
func (p *parser) into() []api.Expr {
	if p.next() == sign("$") || p.next() == other(api.TName) {
		return []api.Expr{p.lvalue()}
	}
	return nil
}

// list takes expressions with commas between.
func (p *parser) list() []api.Expr {
	list := p.one()
	for p.takes(sign(",")) {
		p.lines()
		list = append(list, p.expr())
	}
	return list
}

func (p *parser) one() []api.Expr {
	return []api.Expr{p.expr()}
}

// arguments takes a list in parentheses, which may be empty.
func (p *parser) arguments() []api.Expr {
	return p.enclosed("(", ")", func() []api.Expr {
		if p.next() == sign(")") {
			return nil
		}
		return p.list()
	})
}

// enclosed takes expressions between two signs, which are out of print mode.
func (p *parser) enclosed(begin, end string, within func() []api.Expr) []api.Expr {
	printing := p.printing
	p.must(sign(begin))
	p.printing = false
	exprs := within()
	p.must(sign(end))
	p.printing = printing
	return exprs
}
