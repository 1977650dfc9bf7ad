package parse

import (
	"math"

	"winnower/api"
	"winnower/numbers"
)

// primaryRow is how what begins with a token is taken, and whether it may be
// joined to what stands ahead.
type primaryRow struct {
	take  rule
	joins bool
}

func (p *parser) primaryRows() map[mark]primaryRow {
	rows := map[mark]primaryRow{
		other(api.TNum):  {p.number, true},
		other(api.TStr):  {p.quoted, true},
		other(api.TName): {p.variable, true},
		other(api.TFunc): {p.call, true},
		sign("$"):        {p.field, true},
		sign("("):        {p.group, true},
		sign("/"):        {p.pattern, false},
		sign("/="):       {p.pattern, false},
		word("getline"):  {p.getline, false},
		word("length"):   {p.length, true},
	}
	for _, s := range []string{"substr", "index", "split", "sub", "gsub", "match", "sprintf",
		"tolower", "toupper", "int", "srand", "rand", "close", "system"} {
		rows[word(s)] = primaryRow{p.builtin, true}
	}
	return rows
}

func (p *parser) primary() api.Expr {
	row, ok := p.primaries[p.next()]
	if !ok {
		p.fail(api.ErrSyntax)
	}
	return row.take()
}

func (p *parser) number() api.Expr {
	bits, _ := numbers.Prefix(p.token.S)
	if math.IsInf(math.Float64frombits(bits), 0) {
		p.fail(api.ErrSyntax)
	}
	p.take()
	return api.Expr{Kind: api.XNum, N: bits}
}

func (p *parser) quoted() api.Expr {
	return api.Expr{Kind: api.XStr, S: p.take().S}
}

// pattern takes a pattern whose slash was read as a sign.
func (p *parser) pattern() api.Expr {
	p.read(p.token.At, true)
	return api.Expr{Kind: api.XRe, S: p.take().S}
}

func (p *parser) field() api.Expr {
	p.take()
	return api.Expr{Kind: api.XField, Kids: []api.Expr{p.place()}}
}

// group takes an expression in parentheses, or keys in them with the name of
// their array.
func (p *parser) group() api.Expr {
	list := p.enclosed("(", ")", p.list)
	if len(list) == 1 {
		return list[0]
	}
	p.must(word("in"))
	return api.Expr{Kind: api.XIn, S: p.name(), Kids: list}
}

// variable takes a variable, or an element of an array.
func (p *parser) variable() api.Expr {
	name := p.name()
	if p.next() == sign("[") {
		return api.Expr{Kind: api.XIndex, S: name, Kids: p.keys()}
	}
	return api.Expr{Kind: api.XVar, S: name}
}

func (p *parser) keys() []api.Expr {
	return p.enclosed("[", "]", p.list)
}

func (p *parser) call() api.Expr {
	name := p.take().S
	return api.Expr{Kind: api.XCall, S: name, Kids: p.arguments()}
}

func (p *parser) builtin() api.Expr {
	name := p.take().S
	return api.Expr{Kind: api.XBuiltin, S: name, Kids: p.arguments()}
}

// length takes the one builtin whose word may stand alone.
func (p *parser) length() api.Expr {
	name := p.take().S
	e := api.Expr{Kind: api.XBuiltin, S: name}
	if p.next() == sign("(") {
		e.Kids = p.arguments()
	}
	return e
}

// What getline gets a line of, as its N has it, and what is more with an lvalue.
const (
	ofInput    = 1
	ofFile     = 2
	ofCommand  = 3
	withLvalue = 8
)

func (p *parser) getline() api.Expr {
	p.take()
	into := p.into()
	if p.takes(sign("<")) {
		return getline(ofFile, into, p.primary())
	}
	return getline(ofInput, into)
}

func getline(n uint64, into []api.Expr, source ...api.Expr) api.Expr {
	if len(into) > 0 {
		n |= withLvalue
	}
	return api.Expr{Kind: api.XGetline, N: n, Kids: append(into, source...)}
}
