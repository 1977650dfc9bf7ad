package parse

import (
	"winnower/api"
)

// stmtRow is how the statement that begins with a word or a sign is taken, and
// whether its end has to stand behind it.
type stmtRow struct {
	take  func() api.Stmt
	ended bool
}

func (p *parser) stmtRows() map[mark]stmtRow {
	return map[mark]stmtRow{
		sign("{"):        {p.blockStmt, false},
		word("if"):       {p.ifStmt, false},
		word("while"):    {p.whileStmt, false},
		word("do"):       {p.doStmt, true},
		word("for"):      {p.forStmt, false},
		word("break"):    {p.bare(api.SBreak), true},
		word("continue"): {p.bare(api.SContinue), true},
		word("next"):     {p.bare(api.SNext), true},
		word("exit"):     {p.leaving(api.SExit), true},
		word("return"):   {p.leaving(api.SReturn), true},
		word("delete"):   {p.deleteStmt, true},
		word("print"):    {p.printStmt, true},
		word("printf"):   {p.printfStmt, true},
	}
}

func (p *parser) stmt() api.Stmt {
	return nested(p, func() api.Stmt {
		row, ok := p.stmts[p.next()]
		if !ok {
			row = stmtRow{p.exprStmt, true}
		}
		line := p.token.Line
		s := row.take()
		s.Line = line
		if row.ended {
			p.end()
		}
		return s
	})
}

// body takes statements between braces.
func (p *parser) body() []api.Stmt {
	p.must(sign("{"))
	p.terms()
	var stmts []api.Stmt
	for !p.takes(sign("}")) {
		stmts = append(stmts, p.stmt())
		p.terms()
	}
	return stmts
}

// part takes what stands behind a statement's head.
func (p *parser) part() []api.Stmt {
	p.lines()
	switch {
	case p.takes(sign(";")):
		return nil
	case p.next() == sign("{"):
		return p.body()
	}
	return []api.Stmt{p.stmt()}
}

// condition takes an expression in parentheses.
func (p *parser) condition() []api.Expr {
	return p.enclosed("(", ")", p.one)
}

func (p *parser) exprStmt() api.Stmt {
	line := p.token.Line
	return api.Stmt{Kind: api.SExpr, Exprs: p.one(), Line: line}
}

func (p *parser) blockStmt() api.Stmt {
	return api.Stmt{Kind: api.SBlock, Body: p.body()}
}

func (p *parser) ifStmt() api.Stmt {
	p.take()
	s := api.Stmt{Kind: api.SIf, Exprs: p.condition()}
	s.Body = p.part()
	// Whatever stands behind them: they may stand behind a statement.
	p.terms()
	if p.takes(word("else")) {
		s.Else = p.part()
	}
	return s
}

func (p *parser) whileStmt() api.Stmt {
	p.take()
	s := api.Stmt{Kind: api.SWhile, Exprs: p.condition()}
	s.Body = p.part()
	return s
}

func (p *parser) doStmt() api.Stmt {
	p.take()
	s := api.Stmt{Kind: api.SDo, Body: p.part()}
	p.terms()
	p.must(word("while"))
	s.Exprs = p.condition()
	return s
}

// bare makes what takes a statement of one word.
func (p *parser) bare(kind api.StmtKind) func() api.Stmt {
	return func() api.Stmt {
		p.take()
		return api.Stmt{Kind: kind}
	}
}

// leaving makes what takes a statement of a word and perhaps an expression.
func (p *parser) leaving(kind api.StmtKind) func() api.Stmt {
	return func() api.Stmt {
		p.take()
		s := api.Stmt{Kind: kind}
		if !p.isEnd() {
			s.Exprs = p.one()
		}
		return s
	}
}

func (p *parser) deleteStmt() api.Stmt {
	p.take()
	s := api.Stmt{Kind: api.SDelete, S: p.name()}
	if p.next() == sign("[") {
		s.Exprs = p.keys()
	}
	return s
}
