package value

import (
	"iter"

	"sextant/api"
)

// Parts goes through a value and all that is in it.
func Parts(v api.Value) iter.Seq[api.Value] {
	if !right(v) {
		return func(func(api.Value) bool) {}
	}
	// Copies: the caller may change v ahead of the ranging, and a part while it goes on.
	own := copied(v)
	return func(yield func(api.Value) bool) {
		for part := range within(own) {
			if !yield(copied(part)) {
				return
			}
		}
	}
}

// within goes through the parts of a right value, which share its memory.
func within(v api.Value) iter.Seq[api.Value] {
	return func(yield func(api.Value) bool) {
		var down func(api.Value) bool
		down = func(part api.Value) bool {
			if !yield(part) {
				return false
			}
			for _, item := range part.Items {
				if !down(item) {
					return false
				}
			}
			return true
		}
		down(v)
	}
}

// Nodes tells how many parts a value has.
func Nodes(v api.Value) int {
	if !right(v) {
		return 0
	}
	n := 0
	for range within(v) {
		n++
	}
	return n
}

// Deep tells how many values lie within one another.
func Deep(v api.Value) int {
	if !right(v) {
		return 0
	}
	return depth(v)
}

func depth(v api.Value) int {
	deepest := 0
	for _, item := range v.Items {
		deepest = max(deepest, depth(item))
	}
	return deepest + 1
}
