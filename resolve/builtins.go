package resolve

import (
	"math"

	"winnower/api"
)

// endless is how many arguments there may be, where any number may.
const endless = math.MaxInt

// arguments tells how many a builtin may have.
func arguments(builtin string) (least, most int) {
	switch builtin {
	case "rand":
		return 0, 0
	case "length", "srand":
		return 0, 1
	case "index", "match":
		return 2, 2
	case "substr", "split", "sub", "gsub":
		return 2, 3
	case "sprintf":
		return 1, endless
	}
	return 1, 1
}

// Places of arguments that are more than values.
const (
	splitArray = 1 // where split lays its parts
	subTarget  = 2 // what sub and gsub set
)

// mayStand tells a closure that says whether an expression of a kind may be the
// argument of a builtin at a place.
func mayStand(builtin string) func(at int, kind api.ExprKind) bool {
	switch builtin {
	case "split":
		return func(at int, kind api.ExprKind) bool { return at != splitArray || kind == api.XVar }
	case "sub", "gsub":
		return func(at int, kind api.ExprKind) bool { return at != subTarget || isLvalue(kind) }
	}
	return func(int, api.ExprKind) bool { return true }
}

func isLvalue(kind api.ExprKind) bool {
	return kind == api.XVar || kind == api.XIndex || kind == api.XField
}

// builtinUse tells what a variable is used as by a builtin whose argument it is.
func builtinUse(builtin string, at int) use {
	switch {
	case builtin == "length":
		// It takes both sorts.
		return 0
	case builtin == "split" && at == splitArray:
		return asArray
	}
	return asValue
}
