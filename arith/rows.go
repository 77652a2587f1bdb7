package arith

import (
	"slices"

	"sextant/api"
	"sextant/value"
)

func ofLists(op string, a, b []api.Value) (api.Value, api.Errno) {
	if op != "+" {
		return api.Value{}, api.ErrSort
	}
	return limited(value.List(slices.Concat(a, b)...))
}

func ofSets(op string, a, b []api.Value) (api.Value, api.Errno) {
	switch op {
	case "|":
		return limited(value.Set(slices.Concat(a, b)...))
	case "&":
		return limited(value.Set(shared(a, b, true)...))
	case "\\":
		return limited(value.Set(shared(a, b, false)...))
	}
	return api.Value{}, api.ErrSort
}

// shared answers those of a that are in b, or those that are not. They are found by their bytes: to hold each against each would take too long for great sets.
func shared(a, b []api.Value, in bool) []api.Value {
	known := map[string]struct{}{}
	for _, item := range b {
		known[bytesOf(item)] = struct{}{}
	}
	var kept []api.Value
	for _, item := range a {
		if _, ok := known[bytesOf(item)]; ok == in {
			kept = append(kept, item)
		}
	}
	return kept
}

// bytesOf answers the bytes of a right value, as a text that a map takes.
func bytesOf(v api.Value) string {
	b, _ := value.Encode(v)
	return string(b)
}

func within(v, row api.Value) (api.Value, api.Errno) {
	if row.Kind != api.KList && row.Kind != api.KSet {
		return api.Value{}, api.ErrSort
	}
	found := slices.ContainsFunc(row.Items, func(item api.Value) bool { return same(item, v) })
	return value.Bool(found), api.OK
}

// same tells whether two right values are one. Layer 4's Compare tells it, too, but checks both from end to end, however early they part.
func same(a, b api.Value) bool {
	return a.Kind == b.Kind && a.Int == b.Int && a.Im == b.Im && a.Text == b.Text && slices.EqualFunc(a.Items, b.Items, same)
}

// itemAt answers an item in memory of its own.
func itemAt(items []api.Value, i int64) (api.Value, api.Errno) {
	if !isPlace(items, i) {
		return api.Value{}, api.ErrStuck
	}
	return copied(items[i]), api.OK
}

func isPlace(items []api.Value, i int64) bool { return 0 <= i && i < int64(len(items)) }

func copied(v api.Value) api.Value {
	v.Items = slices.Clone(v.Items)
	for i, item := range v.Items {
		v.Items[i] = copied(item)
	}
	return v
}

func sizeOf(args []api.Value) (api.Value, api.Errno) {
	return value.Int(int64(len(args[0].Items))), api.OK
}

func headOf(args []api.Value) (api.Value, api.Errno) { return itemAt(args[0].Items, 0) }

func lastOf(args []api.Value) (api.Value, api.Errno) {
	items := args[0].Items
	return itemAt(items, int64(len(items))-1)
}

func tailOf(args []api.Value) (api.Value, api.Errno) {
	items := args[0].Items
	if len(items) == 0 {
		return api.Value{}, api.ErrStuck
	}
	return limited(value.List(items[1:]...))
}

func atOf(args []api.Value) (api.Value, api.Errno) { return itemAt(args[0].Items, args[1].Int) }

func putOf(args []api.Value) (api.Value, api.Errno) {
	items, i := slices.Clone(args[0].Items), args[1].Int
	if !isPlace(items, i) {
		return api.Value{}, api.ErrStuck
	}
	items[i] = args[2]
	return limited(value.List(items...))
}

func pushOf(args []api.Value) (api.Value, api.Errno) {
	return limited(value.List(behind(args[0].Items, args[1])...))
}

func withOf(args []api.Value) (api.Value, api.Errno) {
	return limited(value.Set(behind(args[0].Items, args[1])...))
}

// behind answers the items and v behind them, in a list of their own: append alone might write into the caller's.
func behind(items []api.Value, v api.Value) []api.Value {
	return append(slices.Clip(items), v)
}

func withoutOf(args []api.Value) (api.Value, api.Errno) {
	items := slices.Clone(args[0].Items)
	kept := slices.DeleteFunc(items, func(item api.Value) bool { return same(item, args[1]) })
	return limited(value.Set(kept...))
}

func listOf(args []api.Value) (api.Value, api.Errno) { return limited(value.List(args[0].Items...)) }

func setOf(args []api.Value) (api.Value, api.Errno) { return limited(value.Set(args[0].Items...)) }

// leastOf leaves the finding to layer 4's sorting: a set rises.
func leastOf(args []api.Value) (api.Value, api.Errno) {
	sorted, _ := value.Set(args[0].Items...)
	return itemAt(sorted.Items, 0)
}

func greatestOf(args []api.Value) (api.Value, api.Errno) {
	sorted, _ := value.Set(args[0].Items...)
	return itemAt(sorted.Items, int64(len(sorted.Items))-1)
}

func rangeOf(args []api.Value) (api.Value, api.Errno) {
	from, to := args[0].Int, args[1].Int
	// The distance is right modulo 2^64, though to - from may pass 63 bits. Only what may fit is made.
	if from < to && uint64(to)-uint64(from) >= api.MaxNodes {
		return api.Value{}, api.ErrStuck
	}
	var items []api.Value
	for n := from; n < to; n++ {
		items = append(items, value.Int(n))
	}
	return limited(value.List(items...))
}

func subsetsOf(args []api.Value) (api.Value, api.Errno) {
	items := args[0].Items
	if len(items) > api.MaxSub || subsetParts(args[0]) > api.MaxNodes {
		return api.Value{}, api.ErrStuck
	}
	subsets := []api.Value{{Kind: api.KSet}}
	for _, item := range items {
		// The range is over those that were there ahead of it, not over what comes to them meanwhile.
		for _, s := range subsets {
			subsets = append(subsets, api.Value{Kind: api.KSet, Items: behind(s.Items, item)})
		}
	}
	return limited(value.Set(subsets...))
}

// subsetParts tells, ahead of their making, how many parts the set of all subsets has: each item of s is in half of them.
func subsetParts(s api.Value) int {
	subsets := 1 << len(s.Items)
	return 1 + subsets + (value.Nodes(s)-1)*subsets/2
}
