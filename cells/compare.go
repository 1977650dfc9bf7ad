package cells

import (
	"cmp"

	"winnower/api"
)

// Compare tells -1, 0 or 1, as a is below b, the same, or above.
func Compare(a, b api.Cell, convfmt string) (int, api.Errno) {
	if numeric(a) && numeric(b) {
		return compareBy(a, b, func(c api.Cell) (float64, api.Errno) {
			return Num(c), api.OK
		})
	}
	return compareBy(a, b, func(c api.Cell) (string, api.Errno) {
		return textOf(c, convfmt)
	})
}

// numeric says whether a cell is compared by its number, if the other one is so,
// too.
func numeric(c api.Cell) bool {
	switch c.Kind {
	case api.Uninit, api.Num, api.StrNum:
		return true
	}
	return false
}

// compareBy compares two cells by what a function tells of each of them.
func compareBy[T cmp.Ordered](a, b api.Cell, told func(c api.Cell) (T, api.Errno)) (int, api.Errno) {
	x, err := told(a)
	if err != api.OK {
		return 0, err
	}
	y, err := told(b)
	if err != api.OK {
		return 0, err
	}
	// To the library, too, both noughts are the same, and what is no number is
	// below all others and the same as itself.
	return cmp.Compare(x, y), api.OK
}
