package show

import (
	"fmt"
	"math"
	"strconv"
	"strings"

	"winnower/api"
	"winnower/nodes"
)

// The chapter's words: whole texts of kids, put into those around them, however
// long they are.

// modelE is a kid's text.
func modelE(e api.Expr) string {
	switch e.Kind {
	case api.XNum, api.XStr, api.XRe, api.XVar, api.XIndex, api.XField, api.XCall, api.XBuiltin:
		return modelX(e)
	}
	return fmt.Sprintf("(%s)", modelX(e))
}

func modelList(exprs []api.Expr) string {
	return strings.Join(mapped(exprs, modelE), ", ")
}

// modelX is an expression's text without parentheses.
func modelX(e api.Expr) string {
	kids := mapped(e.Kids, modelE)
	list := strings.Join(kids, ", ")
	row := func(between ...string) string {
		text := kids[0]
		for i, b := range between {
			text += " " + b + " " + kids[i+1]
		}
		return text
	}
	switch e.Kind {
	case api.XNum:
		return modelNumber(math.Float64frombits(e.N))
	case api.XStr:
		return modelQuoted(e.S)
	case api.XRe:
		return fmt.Sprintf("/%s/", strings.Join(strings.Split(e.S, "/"), `\/`))
	case api.XVar:
		return e.S
	case api.XIndex:
		return fmt.Sprintf("%s[%s]", e.S, list)
	case api.XField:
		return "$" + kids[0]
	case api.XCall, api.XBuiltin:
		return fmt.Sprintf("%s(%s)", e.S, list)
	case api.XAssign, api.XMatch, api.XCmp, api.XBin:
		return row(e.S)
	case api.XCond:
		return row("?", ":")
	case api.XOr:
		return row("||")
	case api.XAnd:
		return row("&&")
	case api.XNot, api.XNeg, api.XPlus:
		return map[api.ExprKind]string{api.XNot: "!", api.XNeg: "-", api.XPlus: "+"}[e.Kind] + " " + kids[0]
	case api.XIn:
		if len(kids) == 1 {
			return kids[0] + " in " + e.S
		}
		return fmt.Sprintf("(%s) in %s", list, e.S)
	case api.XCat:
		if e.Kids[1].Kind == api.XRe {
			kids[1] = "(" + kids[1] + ")"
		}
		return strings.Join(kids, " ")
	case api.XPre:
		return e.S + kids[0]
	case api.XPost:
		return kids[0] + e.S
	}
	return modelGetline(e.N, kids)
}

func modelGetline(n uint64, kids []string) string {
	text := "getline"
	if n >= 8 {
		text += " " + kids[0]
		kids = kids[1:]
	}
	switch n % 8 {
	case 2:
		text += " < " + kids[0]
	case 3:
		text = kids[0] + " | " + text
	}
	return text
}

// modelNumber is what C's %.17g tells.
func modelNumber(f float64) string {
	return strconv.FormatFloat(f, 'g', 17, 64)
}

func modelQuoted(s string) string {
	text := []byte(`"`)
	for i := range len(s) {
		switch b := s[i]; {
		case strings.IndexByte(`"\`, b) >= 0:
			text = append(text, '\\', b)
		case b == 10:
			text = append(text, `\n`...)
		case b >= 32 && b <= 126:
			text = append(text, b)
		default:
			text = fmt.Appendf(text, `\%03o`, b)
		}
	}
	return string(append(text, '"'))
}

func modelLine(level int, text string) string {
	return fmt.Sprintf("%s%s\n", strings.Repeat("\t", level), text)
}

func modelBody(stmts []api.Stmt, level int) string {
	return strings.Join(mapped(stmts, func(s api.Stmt) string { return modelStmt(s, level) }), "")
}

// modelBraced is { at a line's end, a body and a line that begins with }.
func modelBraced(level int, head string, body []api.Stmt, tail string) string {
	return modelLine(level, head+"{") + modelBody(body, level+1) + modelLine(level, "}"+tail)
}

func modelStmt(s api.Stmt, level int) string {
	first := func(list []api.Expr, ahead string) string {
		if len(list) == 0 {
			return ""
		}
		return ahead + modelX(list[0])
	}
	switch s.Kind {
	case api.SExpr:
		return modelLine(level, modelX(s.Exprs[0]))
	case api.SPrint:
		return modelLine(level, "print"+modelPrinted(s.Exprs, s.N))
	case api.SPrintf:
		return modelLine(level, "printf"+modelPrinted(s.Exprs, s.N))
	case api.SIf:
		if len(s.Else) == 0 {
			return modelBraced(level, first(s.Exprs, "if (")+") ", s.Body, "")
		}
		return modelLine(level, first(s.Exprs, "if (")+") {") + modelBody(s.Body, level+1) + modelBraced(level, "} else ", s.Else, "")
	case api.SWhile:
		return modelBraced(level, first(s.Exprs, "while (")+") ", s.Body, "")
	case api.SDo:
		return modelBraced(level, "do ", s.Body, first(s.Exprs, " while (")+")")
	case api.SFor:
		steps := mapped(s.Else, func(s api.Stmt) string { return modelX(s.Exprs[0]) })
		// What is not there has no text.
		if s.N == 0 || s.N == 2 || s.N == 4 || s.N == 6 {
			steps = append([]string{""}, steps...)
		}
		steps = append(steps, "")
		return modelBraced(level, "for ("+steps[0]+"; "+first(s.Exprs, "")+"; "+steps[1]+") ", s.Body, "")
	case api.SForIn:
		return modelBraced(level, "for ("+s.S+" in "+s.Exprs[0].S+") ", s.Body, "")
	case api.SExit, api.SReturn:
		return modelLine(level, map[api.StmtKind]string{api.SExit: "exit", api.SReturn: "return"}[s.Kind]+first(s.Exprs, " "))
	case api.SDelete:
		if len(s.Exprs) == 0 {
			return modelLine(level, "delete "+s.S)
		}
		return modelLine(level, fmt.Sprintf("delete %s[%s]", s.S, modelList(s.Exprs)))
	case api.SBlock:
		return modelBraced(level, "", s.Body, "")
	}
	return modelLine(level, map[api.StmtKind]string{api.SBreak: "break", api.SContinue: "continue", api.SNext: "next"}[s.Kind])
}

func modelPrinted(exprs []api.Expr, n int) string {
	text, to := "", []string{"", " >", " >>", " |"}[n]
	if n > 0 {
		to += " " + modelE(exprs[len(exprs)-1])
		exprs = exprs[:len(exprs)-1]
	}
	if len(exprs) > 0 {
		text = " " + modelList(exprs)
	}
	return text + to
}

func modelItem(it api.Item) string {
	switch it.Kind {
	case api.IBegin:
		return modelBraced(0, "BEGIN ", it.Body, "")
	case api.IEnd:
		return modelBraced(0, "END ", it.Body, "")
	case api.IFunc:
		return modelBraced(0, fmt.Sprintf("function %s(%s) ", it.Name, strings.Join(it.Params, ", ")), it.Body, "")
	}
	head := strings.Join(mapped(it.Exprs, modelX), ", ")
	if !it.HasBody {
		return modelLine(0, head)
	}
	if head != "" {
		head += " "
	}
	return modelBraced(0, head, it.Body, "")
}

// modelShow is what Show tells of a program.
func modelShow(p api.Program) (string, api.Errno) {
	if !nodes.Right(p) {
		return "", api.ErrTree
	}
	return modelWhat(strings.Join(mapped(p.Items, modelItem), ""))
}

// modelWhole is what Expr tells of an expression.
func modelWhole(e api.Expr) (string, api.Errno) {
	if !nodes.Expr(e) {
		return "", api.ErrTree
	}
	return modelWhat(modelX(e))
}

func modelWhat(text string) (string, api.Errno) {
	if len(text) > mostSource {
		return "", api.ErrLong
	}
	return text, api.OK
}
