package show

import (
	"winnower/api"
	"winnower/digits"
)

// numberPlaces are enough to tell a number from all others.
const numberPlaces = 17

// expr tells an expression's text, without parentheses around it.
func (t *text) expr(e *api.Expr) {
	// One tree may stand at so many places that nobody could come to its end.
	if t.long {
		return
	}
	kid := t.kids(e.Kids)
	for _, mark := range form(e) {
		switch mark {
		case '0', '1', '2':
			kid(int(mark - '0'))
		case 'L':
			t.row(len(e.Kids), kid)
		case 'S':
			t.put(e.S)
		case 'N':
			t.put(digits.Short(e.N, numberPlaces, false))
		case 'Q':
			t.bytes(e.S, quoted)
		case 'R':
			t.bytes(e.S, slashed)
		default:
			t.put(string(mark))
		}
	}
}

// kids tells a closure that tells one of some expressions as a kid: in
// parentheses, but where none are needed whatever stands around it.
func (t *text) kids(exprs []api.Expr) func(at int) {
	return func(at int) {
		e := &exprs[at]
		if isClosed(e.Kind) {
			t.expr(e)
			return
		}
		t.put("(")
		t.expr(e)
		t.put(")")
	}
}

func isClosed(kind api.ExprKind) bool {
	switch kind {
	case api.XNum, api.XStr, api.XRe, api.XVar, api.XIndex, api.XField, api.XCall, api.XBuiltin:
		return true
	}
	return false
}

// form tells how the text of an expression is made: a digit stands for the kid at
// that place, L for all kids as a list, S for what it says; N, Q and R for what a
// number, a text and a pattern say; all else for itself.
func form(e *api.Expr) string {
	switch e.Kind {
	case api.XNum:
		return "N"
	case api.XStr:
		return `"Q"`
	case api.XRe:
		return "/R/"
	case api.XVar:
		return "S"
	case api.XIndex:
		return "S[L]"
	case api.XField:
		return "$0"
	case api.XCall, api.XBuiltin:
		return "S(L)"
	case api.XAssign, api.XMatch, api.XCmp, api.XBin:
		return "0 S 1"
	case api.XCond:
		return "0 ? 1 : 2"
	case api.XOr:
		return "0 || 1"
	case api.XAnd:
		return "0 && 1"
	case api.XNot:
		return "! 0"
	case api.XNeg:
		return "- 0"
	case api.XPlus:
		return "+ 0"
	case api.XPre:
		return "S0"
	case api.XPost:
		return "0S"
	case api.XIn:
		return inForm(len(e.Kids))
	case api.XCat:
		return catForm(e.Kids[1].Kind)
	}
	return getlineForm(e.N)
}

func inForm(keys int) string {
	if keys > 1 {
		return "(L) in S"
	}
	return "0 in S"
}

func catForm(second api.ExprKind) string {
	// Its slash would be a division's.
	if second == api.XRe {
		return "0 (1)"
	}
	return "0 1"
}

// getlineForm has the lvalue as the first kid, if there is one.
func getlineForm(n uint64) string {
	switch n {
	case 1:
		return "getline"
	case 2:
		return "getline < 0"
	case 3:
		return "0 | getline"
	case 9:
		return "getline 0"
	case 10:
		return "getline 0 < 1"
	}
	return "1 | getline 0"
}

// quoted tells what says a byte between quotes.
func quoted(b byte) string {
	switch {
	case b == '"' || b == '\\':
		return string([]byte{'\\', b})
	case b == '\n':
		return `\n`
	case b < ' ' || b > '~':
		// All three digits: one that stands behind them is another byte.
		return string([]byte{'\\', '0' + b>>6, '0' + b>>3&7, '0' + b&7})
	}
	return string([]byte{b})
}

// slashed tells what says a byte between slashes.
func slashed(b byte) string {
	if b == '/' {
		return `\/`
	}
	return string([]byte{b})
}
