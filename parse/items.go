package parse

import (
	"winnower/api"
)

// program takes a whole source.
func (p *parser) program() api.Program {
	rows := map[mark]func() api.Item{
		word("BEGIN"):    p.beginItem,
		word("END"):      p.endItem,
		word("function"): p.functionItem,
	}
	var program api.Program
	p.terms()
	for p.next() != other(api.TEnd) {
		take, ok := rows[p.next()]
		if !ok {
			take = p.ruleItem
		}
		line := p.token.Line
		item := take()
		item.Line = line
		program.Items = append(program.Items, item)
		p.terms()
	}
	return program
}

func (p *parser) beginItem() api.Item {
	p.take()
	return api.Item{Kind: api.IBegin, Body: p.body()}
}

func (p *parser) endItem() api.Item {
	p.take()
	return api.Item{Kind: api.IEnd, Body: p.body()}
}

func (p *parser) functionItem() api.Item {
	p.take()
	item := api.Item{Kind: api.IFunc}
	if p.next() == other(api.TFunc) {
		item.Name = p.take().S
	} else {
		item.Name = p.name()
	}
	item.Params = p.params()
	p.lines()
	item.Body = p.body()
	return item
}

func (p *parser) params() []string {
	p.must(sign("("))
	if p.takes(sign(")")) {
		return nil
	}
	params := []string{p.name()}
	for p.takes(sign(",")) {
		p.lines()
		params = append(params, p.name())
	}
	p.must(sign(")"))
	return params
}

func (p *parser) ruleItem() api.Item {
	item := api.Item{Kind: api.IRule}
	if p.next() != sign("{") {
		item.Exprs = p.patterns()
	}
	if p.next() == sign("{") {
		item.HasBody, item.Body = true, p.body()
		return item
	}
	// Without a body nothing else tells where a rule ends.
	if !p.isTerm() && p.next() != other(api.TEnd) {
		p.fail(api.ErrSyntax)
	}
	return item
}

// patterns takes a rule's pattern, or the two of a range.
func (p *parser) patterns() []api.Expr {
	exprs := p.one()
	if p.takes(sign(",")) {
		p.lines()
		exprs = append(exprs, p.expr())
	}
	return exprs
}
