package value

import (
	"cmp"
	"slices"

	"sextant/api"
)

// Compare tells which of two values comes first: -1 the first, 1 the second, 0 none.
func Compare(a, b api.Value) int {
	rightA, rightB := right(a), right(b)
	switch {
	case rightA && rightB:
		return order(a, b)
	case rightA:
		return -1
	case rightB:
		return 1
	}
	return 0
}

// order compares right values. All fields count, whatever the kind: those that a kind does not use are zero.
func order(a, b api.Value) int {
	return cmp.Or(
		cmp.Compare(a.Kind, b.Kind),
		cmp.Compare(a.Int, b.Int),
		cmp.Compare(a.Im, b.Im),
		cmp.Compare(a.Text, b.Text),
		orderItems(a.Items, b.Items),
	)
}

func orderItems(a, b []api.Value) int {
	if c := cmp.Compare(len(a), len(b)); c != 0 {
		return c
	}
	return slices.CompareFunc(a, b, order)
}

func alike(a, b api.Value) bool { return order(a, b) == 0 }
