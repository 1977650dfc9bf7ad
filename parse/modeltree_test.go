package parse

import (
	"math"
	"slices"
	"strings"

	"winnower/api"
)

// What the model's trees say, as the chapter has it.

func (n *node) first() api.Token {
	for n.rule != "" {
		n = n.kids[0]
	}
	return n.token
}

// of tells what is of some rules.
func (n *node) of(rules ...string) []*node {
	var some []*node
	for _, kid := range n.kids {
		if slices.Contains(rules, kid.rule) && kid.rule != "" {
			some = append(some, kid)
		}
	}
	return some
}

// names tells the names that stand in a rule itself.
func (n *node) names() []string {
	var names []string
	for _, kid := range n.kids {
		if kid.token.Kind == api.TName || kid.token.Kind == api.TFunc {
			names = append(names, kid.token.S)
		}
	}
	return names
}

func modelProgram(n *node) api.Program {
	var p api.Program
	for _, item := range n.of("item") {
		p.Items = append(p.Items, modelItem(item))
	}
	return p
}

func modelItem(n *node) api.Item {
	item := api.Item{Line: n.first().Line}
	bodies := n.of("body")
	switch {
	case n.kids[0].token.S == "BEGIN":
		item.Kind = api.IBegin
	case n.kids[0].token.S == "END":
		item.Kind = api.IEnd
	case n.kids[0].token.S == "function":
		item.Kind = api.IFunc
		item.Name, item.Params = n.names()[0], n.names()[1:]
	default:
		item.Kind = api.IRule
		item.Exprs = modelList(n)
		if ends := n.of("ruleEnd"); len(ends) > 0 {
			bodies = ends[0].of("body")
		}
		item.HasBody = len(bodies) > 0
	}
	if len(bodies) > 0 {
		item.Body = modelBody(bodies[0])
	}
	return item
}

func modelBody(n *node) []api.Stmt {
	var stmts []api.Stmt
	for rest := n.of("stmts"); len(rest) > 0; rest = rest[0].of("stmts") {
		for _, stmt := range rest[0].of("stmt") {
			stmts = append(stmts, modelStmt(stmt))
		}
	}
	return stmts
}

func modelPart(n *node) []api.Stmt {
	switch n.kids[0].rule {
	case "body":
		return modelBody(n.kids[0])
	case "stmt":
		return []api.Stmt{modelStmt(n.kids[0])}
	}
	return nil
}

func modelStmt(n *node) api.Stmt {
	var s api.Stmt
	parts := n.of("part")
	switch first := n.kids[0]; {
	case first.rule == "simple":
		s = modelSimple(first)
	case first.rule == "body":
		s = api.Stmt{Kind: api.SBlock, Body: modelBody(first)}
	case first.token.S == "for":
		s = modelFor(n.of("forHead")[0])
	default:
		s.Kind = map[string]api.StmtKind{"if": api.SIf, "while": api.SWhile, "do": api.SDo}[first.token.S]
		s.Exprs = modelList(n)
	}
	if len(parts) > 0 {
		s.Body = modelPart(parts[0])
	}
	if len(parts) > 1 {
		s.Else = modelPart(parts[1])
	}
	s.Line = n.first().Line
	return s
}

func modelFor(n *node) api.Stmt {
	if names := n.names(); len(names) == 2 {
		return api.Stmt{Kind: api.SForIn, S: names[0], Exprs: []api.Expr{{Kind: api.XVar, S: names[1]}}}
	}
	s := api.Stmt{Kind: api.SFor}
	which := 1
	for _, kid := range n.kids[0].kids {
		if kid.token.S == ";" {
			which *= 2
		}
		if kid.rule != "expr" {
			continue
		}
		s.N += which
		if e := modelExpr(kid); which == 2 {
			s.Exprs = append(s.Exprs, e)
		} else {
			s.Else = append(s.Else, api.Stmt{Kind: api.SExpr, Exprs: []api.Expr{e}, Line: kid.first().Line})
		}
	}
	return s
}

func modelSimple(n *node) api.Stmt {
	if n.kids[0].rule == "expr" {
		return api.Stmt{Kind: api.SExpr, Exprs: modelList(n)}
	}
	s := api.Stmt{Exprs: modelList(n)}
	s.Kind = map[string]api.StmtKind{"break": api.SBreak, "continue": api.SContinue, "next": api.SNext, "exit": api.SExit,
		"return": api.SReturn, "delete": api.SDelete, "print": api.SPrint, "printf": api.SPrintf}[n.kids[0].token.S]
	if s.Kind == api.SDelete {
		s.S = n.names()[0]
	}
	for _, args := range n.of("args") {
		s.Exprs = modelList(args)
	}
	for _, to := range n.of("to") {
		s.N = map[string]int{">": 1, ">>": 2, "|": 3}[to.kids[0].token.S]
		s.Exprs = append(s.Exprs, modelExpr(to.kids[1]))
	}
	return s
}

// modelList tells the expressions of all expr that stand in a rule or a list of it.
func modelList(n *node) []api.Expr {
	var exprs []api.Expr
	for _, kid := range n.of("expr", "exprP", "list", "listP", "groupEnd") {
		if strings.HasPrefix(kid.rule, "expr") {
			exprs = append(exprs, modelExpr(kid))
		} else {
			exprs = append(exprs, modelList(kid)...)
		}
	}
	return exprs
}

func modelExpr(n *node) api.Expr {
	kids := n.kids
	switch rule := strings.TrimSuffix(n.rule, "P"); rule {
	case "expr":
		if len(kids) == 1 {
			return modelExpr(kids[0])
		}
		return expr(api.XAssign, kids[1].first().S, modelExpr(kids[0]), modelExpr(kids[2]))
	case "cond":
		if len(kids) == 1 {
			return modelExpr(kids[0])
		}
		branches := modelList(n)
		return expr(api.XCond, "", modelExpr(kids[0]), branches[0], branches[1])
	case "or", "and", "match", "cmp", "cat", "add", "mul", "among":
		return modelRow(rule, n)
	case "pipe":
		return modelPipe(n)
	case "unary", "power", "place", "post":
		return modelSigned(n)
	}
	return modelPrimary(n)
}

// modelRow folds what stands in a row from the left.
func modelRow(rule string, n *node) api.Expr {
	kinds := map[string]api.ExprKind{"or": api.XOr, "and": api.XAnd, "match": api.XMatch, "cmp": api.XCmp, "cat": api.XCat, "add": api.XBin, "mul": api.XBin}
	e := modelExpr(n.kids[0])
	says := ""
	for _, kid := range n.kids[1:] {
		switch {
		case kid.rule == "nl" || kid.token.S == "in" && kid.token.Kind == api.TWord:
		case rule == "among":
			e = expr(api.XIn, kid.token.S, e)
		case kid.rule == "":
			says = kid.token.S
		case rule == "or" || rule == "and":
			e = expr(kinds[rule], "", e, modelExpr(kid))
		default:
			e = expr(kinds[rule], says, e, modelExpr(kid))
		}
	}
	return e
}

func modelPipe(n *node) api.Expr {
	e := modelExpr(n.kids[0])
	for i, kid := range n.kids {
		if kid.token.S != "getline" || kid.token.Kind != api.TWord {
			continue
		}
		if i+1 < len(n.kids) && n.kids[i+1].rule == "lvalue" {
			e = api.Expr{Kind: api.XGetline, N: 11, Kids: []api.Expr{modelExpr(n.kids[i+1]), e}}
		} else {
			e = api.Expr{Kind: api.XGetline, N: 3, Kids: []api.Expr{e}}
		}
	}
	return e
}

func modelSigned(n *node) api.Expr {
	first := n.kids[0]
	if first.rule == "" {
		if kid := modelExpr(n.kids[1]); len(first.token.S) == 2 {
			return expr(api.XPre, first.token.S, kid)
		} else {
			return expr(map[string]api.ExprKind{"!": api.XNot, "-": api.XNeg, "+": api.XPlus}[first.token.S], "", kid)
		}
	}
	e := modelExpr(first)
	switch len(n.kids) {
	case 2:
		return expr(api.XPost, n.kids[1].token.S, e)
	case 3:
		return expr(api.XBin, "^", e, modelExpr(n.kids[2]))
	}
	return e
}

func modelPrimary(n *node) api.Expr {
	list := modelList(n)
	switch first := n.kids[0].token; first.Kind {
	case api.TNum:
		return api.Expr{Kind: api.XNum, N: math.Float64bits(modelNumber(first.S))}
	case api.TStr:
		return expr(api.XStr, first.S)
	case api.TRe:
		return expr(api.XRe, first.S)
	case api.TFunc:
		return expr(api.XCall, first.S, list...)
	case api.TName:
		if len(list) > 0 {
			return expr(api.XIndex, first.S, list...)
		}
		return expr(api.XVar, first.S)
	case api.TWord:
		if first.S == "getline" {
			return modelGetline(n)
		}
		return expr(api.XBuiltin, first.S, list...)
	}
	if n.kids[0].token.S == "$" {
		return expr(api.XField, "", modelExpr(n.kids[1]))
	}
	if end := n.of("groupEnd")[0]; len(end.names()) > 0 {
		return expr(api.XIn, end.names()[0], list...)
	}
	return list[0]
}

func modelGetline(n *node) api.Expr {
	e := api.Expr{Kind: api.XGetline, N: 1}
	for _, lvalue := range n.of("lvalue") {
		e.N += 8
		e.Kids = append(e.Kids, modelExpr(lvalue))
	}
	for _, source := range n.of("primary") {
		e.N++
		e.Kids = append(e.Kids, modelExpr(source))
	}
	return e
}

// modelSize tells how many parts a program has, and how deep they are nested, as
// chapter 13 has it.
func modelSize(p api.Program) (size, depth int) {
	var exprs func(list []api.Expr, level int)
	exprs = func(list []api.Expr, level int) {
		for _, e := range list {
			size, depth = size+1, max(depth, level)
			exprs(e.Kids, level+1)
		}
	}
	var stmts func(list []api.Stmt, level int)
	stmts = func(list []api.Stmt, level int) {
		for _, s := range list {
			size, depth = size+1, max(depth, level)
			exprs(s.Exprs, level+1)
			stmts(s.Body, level+1)
			stmts(s.Else, level+1)
		}
	}
	for _, item := range p.Items {
		exprs(item.Exprs, 1)
		stmts(item.Body, 1)
	}
	return size, depth
}
