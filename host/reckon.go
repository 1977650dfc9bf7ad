package host

import (
	"math"

	"winnower/api"
	"winnower/cells"
)

// mostPower is how great, on both sides, an exponent may be.
const mostPower = 1024

// Arith tells what op makes of two cells' numbers.
func (h *Host) Arith(op string, a, b api.Cell) (api.Cell, api.Errno) {
	if !h.made() {
		return api.Cell{}, api.ErrNil
	}
	f, err := reckon(op, cells.Num(a), cells.Num(b))
	if err != api.OK {
		return api.Cell{}, err
	}
	return cells.Number(f), api.OK
}

func reckon(op string, x, y float64) (float64, api.Errno) {
	switch op {
	case "+":
		return x + y, api.OK
	case "-":
		return x - y, api.OK
	case "*":
		return x * y, api.OK
	case "/", "%":
		return divide(op, x, y)
	case "^":
		return power(x, y)
	}
	return 0, api.ErrArg
}

func divide(op string, x, y float64) (float64, api.Errno) {
	switch {
	case y == 0:
		return 0, api.ErrDivide
	case op == "%":
		return math.Mod(x, y), api.OK
	}
	return x / y, api.OK
}

// power multiplies in an order of its own, which says how it is rounded.
func power(x, y float64) (float64, api.Errno) {
	// What is no number is not the same as itself without its rest, either.
	if y != math.Trunc(y) || math.Abs(y) > mostPower {
		return 0, api.ErrPower
	}
	r := 1.0
	for n := int(math.Abs(y)); n > 0; n /= 2 {
		if n%2 == 1 {
			r *= x
		}
		x *= x
	}
	if y < 0 {
		return 1 / r, api.OK
	}
	return r, api.OK
}

// Compare tells 1, if op holds of two cells, else 0.
func (h *Host) Compare(op string, a, b api.Cell) (api.Cell, api.Errno) {
	if !h.made() {
		return api.Cell{}, api.ErrNil
	}
	holds := relation(op)
	if holds == nil {
		return api.Cell{}, api.ErrArg
	}
	order, err := cells.Compare(a, b, h.convfmt())
	if err != api.OK {
		return api.Cell{}, err
	}
	return truth(holds(order)), api.OK
}

// relation tells of which orders op holds, or nothing, if it is none.
func relation(op string) func(order int) bool {
	switch op {
	case "<":
		return func(order int) bool { return order < 0 }
	case "<=":
		return func(order int) bool { return order <= 0 }
	case "==":
		return func(order int) bool { return order == 0 }
	case "!=":
		return func(order int) bool { return order != 0 }
	case ">":
		return func(order int) bool { return order > 0 }
	case ">=":
		return func(order int) bool { return order >= 0 }
	}
	return nil
}

// truth tells the cell of 1 or 0.
func truth(holds bool) api.Cell {
	if holds {
		return cells.Number(1)
	}
	return cells.Number(0)
}
