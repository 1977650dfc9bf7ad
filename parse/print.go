package parse

import (
	"winnower/api"
)

// targetRows tells what stands ahead of where print prints to, and N of it.
func targetRows() map[mark]int {
	return map[mark]int{sign(">"): 1, sign(">>"): 2, sign("|"): 3}
}

func (p *parser) printStmt() api.Stmt {
	p.take()
	return p.printed(api.Stmt{Kind: api.SPrint}, p.printArgs)
}

func (p *parser) printfStmt() api.Stmt {
	p.take()
	return p.printed(api.Stmt{Kind: api.SPrintf}, p.args)
}

// printed takes what is printed, and where to.
func (p *parser) printed(s api.Stmt, args func() []api.Expr) api.Stmt {
	p.printing = true
	s.Exprs = args()
	if s.N = p.targets[p.next()]; s.N > 0 {
		p.take()
		s.Exprs = append(s.Exprs, p.cat())
	}
	p.printing = false
	return s
}

func (p *parser) printArgs() []api.Expr {
	if p.isArgsEnd() {
		return nil
	}
	return p.args()
}

func (p *parser) isArgsEnd() bool {
	return p.isEnd() || p.targets[p.next()] > 0
}

// args takes a list: in parentheses, if it ends with them.
func (p *parser) args() []api.Expr {
	var list []api.Expr
	alone := p.next() == sign("(") && p.fits(func() bool {
		list = p.enclosed("(", ")", p.list)
		return p.isArgsEnd()
	})
	if alone {
		return list
	}
	return p.list()
}
