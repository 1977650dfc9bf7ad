package parse

import (
	"math"

	"winnower/api"
)

// parser goes through a source, token by token.
type parser struct {
	state
	text string
	grammar
}

// rule takes an expression.
type rule func() api.Expr

// grammar is what may stand next, told by maps, and the rules that are made of
// one another.
type grammar struct {
	primaries             map[mark]primaryRow
	stmts                 map[mark]stmtRow
	assigns, ahead, after map[mark]operation
	targets               map[mark]int

	or, cat, unary, place rule
}

// operation is what a sign makes of the expressions beside it.
type operation struct {
	kind      api.ExprKind
	s         string
	lines     bool // lines' ends may stand behind the sign
	unprinted bool // in print mode it is none
}

func (o operation) of(kids ...api.Expr) api.Expr {
	return api.Expr{Kind: o.kind, S: o.s, Kids: kids}
}

// newParser tells a parser that looks at the first token of a source.
func newParser(text string) *parser {
	p := &parser{text: text}
	p.primaries, p.stmts, p.targets = p.primaryRows(), p.stmtRows(), targetRows()
	p.assigns = says(api.XAssign, "=", "+=", "-=", "*=", "/=", "%=", "^=")
	p.ahead, p.after = says(api.XPre, "++", "--"), says(api.XPost, "++", "--")
	p.layRules()
	p.read(0, false)
	return p
}

// layRules makes each rule of operations of the one that binds more.
func (p *parser) layRules() {
	p.unary, p.place = p.signed(p.raised), p.signed(p.stepped)
	mul := p.binary(p.unary, endless, says(api.XBin, "*", "/", "%"))
	add := p.binary(mul, endless, says(api.XBin, "+", "-"))
	p.cat = p.joined(add)
	cmp := p.binary(p.piped(p.cat), 1, comparisons())
	match := p.binary(cmp, 1, says(api.XMatch, "~", "!~"))
	and := p.binary(p.among(match), endless, map[mark]operation{sign("&&"): {kind: api.XAnd, lines: true}})
	p.or = p.binary(and, endless, map[mark]operation{sign("||"): {kind: api.XOr, lines: true}})
}

// says tells a row of signs whose operations say which sign it was.
func says(kind api.ExprKind, signs ...string) map[mark]operation {
	row := map[mark]operation{}
	for _, s := range signs {
		row[sign(s)] = operation{kind: kind, s: s}
	}
	return row
}

func comparisons() map[mark]operation {
	row := says(api.XCmp, "<", "<=", "==", "!=", ">=")
	// In print mode it tells where to.
	row[sign(">")] = operation{kind: api.XCmp, s: ">", unprinted: true}
	return row
}

// operation takes the sign of one of some operations, if one stands next.
func (p *parser) operation(row map[mark]operation) (operation, bool) {
	o, ok := row[p.next()]
	if !ok || o.unprinted && p.printing {
		return operation{}, false
	}
	p.take()
	if o.lines {
		p.lines()
	}
	return o, true
}

// endless is how many operations there may be in a row, where any number may.
const endless = math.MaxInt

// binary makes a rule of the one below it: so many signs at most may stand behind
// what that takes, each with one more behind it.
func (p *parser) binary(below rule, most int, row map[mark]operation) rule {
	return func() api.Expr {
		e := below()
		for range most {
			o, ok := p.operation(row)
			if !ok {
				break
			}
			e = o.of(e, below())
		}
		return e
	}
}

// joined makes a rule of the one below it: others like it may stand right behind.
func (p *parser) joined(below rule) rule {
	return func() api.Expr {
		e := below()
		for p.primaries[p.next()].joins {
			e = api.Expr{Kind: api.XCat, Kids: []api.Expr{e, below()}}
		}
		return e
	}
}

// piped makes a rule of the one below it: what gets lines of it may stand behind,
// but in print mode.
func (p *parser) piped(below rule) rule {
	return func() api.Expr {
		e := below()
		for !p.printing && p.takes(sign("|")) {
			p.must(word("getline"))
			e = getline(ofCommand, p.into(), e)
		}
		return e
	}
}

// among makes a rule of the one below it: names of arrays may stand behind.
func (p *parser) among(below rule) rule {
	return func() api.Expr {
		e := below()
		for p.takes(word("in")) {
			e = api.Expr{Kind: api.XIn, S: p.name(), Kids: []api.Expr{e}}
		}
		return e
	}
}

// signed makes a rule of a plain one: signs may stand ahead.
func (p *parser) signed(plain rule) rule {
	row := map[mark]operation{
		sign("!"): {kind: api.XNot},
		sign("-"): {kind: api.XNeg},
		sign("+"): {kind: api.XPlus},
	}
	var again rule
	again = func() api.Expr {
		return nested(p, func() api.Expr {
			if o, ok := p.operation(row); ok {
				return o.of(again())
			}
			return plain()
		})
	}
	return again
}

// mostGoing is how many rules that count may be going on at once.
const mostGoing = 300

// nested does a rule that counts.
func nested[T any](p *parser, rule func() T) T {
	if p.going == mostGoing {
		p.fail(api.ErrNested)
	}
	p.going++
	taken := rule()
	p.going--
	return taken
}
