package resolve

import (
	"slices"

	"winnower/api"
)

// use is what a name is used as: nothing, one of these, or both.
type use uint8

const (
	asArray use = 1
	asValue use = 2
)

// name tells the name that a part has, and what it is used as there, if the part
// has one.
func (p part) name() (string, use, bool) {
	switch {
	case p.expr != nil:
		return p.exprName()
	case p.stmt != nil:
		return p.stmtName()
	}
	return "", 0, false
}

func (p part) stmtName() (string, use, bool) {
	switch p.stmt.Kind {
	case api.SForIn:
		return p.stmt.S, asValue, true
	case api.SDelete:
		return p.stmt.S, asArray, true
	}
	return "", 0, false
}

func (p part) exprName() (string, use, bool) {
	switch p.expr.Kind {
	case api.XVar:
		return p.expr.S, p.variableUse(), true
	case api.XIndex, api.XIn:
		return p.expr.S, asArray, true
	}
	return "", 0, false
}

// variableUse tells what a variable is used as where it stands.
func (p part) variableUse() use {
	switch {
	case p.isLoopArray():
		return asArray
	case p.around == nil:
		return asValue
	case p.around.Kind == api.XCall:
		// It is what the parameter is that it is tied to.
		return 0
	case p.around.Kind == api.XBuiltin:
		return builtinUse(p.around.S, p.at)
	}
	return asValue
}

// isLoopArray says whether an expression tells which array's keys a loop goes
// through: a for in has no other one.
func (p part) isLoopArray() bool {
	return p.around == nil && p.stmt != nil && p.stmt.Kind == api.SForIn
}

// isOwn says whether a name is one of an item's own: a parameter's.
func isOwn(it *api.Item, name string) bool {
	return slices.Contains(it.Params, name)
}
