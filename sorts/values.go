package sorts

import (
	"sextant/api"
	"sextant/value"
)

// kinds are the kinds of values by their sorts; of SNone there is none.
var kinds = [...]api.Kind{
	api.SInt:   api.KInt,
	api.SBool:  api.KBool,
	api.SSym:   api.KSym,
	api.SGauss: api.KGauss,
	api.STuple: api.KTuple,
	api.SList:  api.KList,
	api.SSet:   api.KSet,
}

// kindOf answers the kind of sorts that values of a kind have.
func kindOf(kind api.Kind) api.SortKind {
	for s, k := range kinds {
		if k == kind {
			return api.SortKind(s)
		}
	}
	return api.SNone
}

// of answers the least sort of a right value.
func of(v api.Value) *tree {
	items := make([]*tree, len(v.Items))
	for i, item := range v.Items {
		items[i] = of(item)
	}
	switch kind := kindOf(v.Kind); kind {
	case api.SList, api.SSet:
		return grow(kind, joined(items))
	default:
		return grow(kind, items...)
	}
}

// fits tells whether a value is right and of a sort.
func fits(t *tree, v api.Value) bool {
	return value.Check(v) == api.OK && t.takes(v)
}

// takes tells whether a right value is of a sort.
func (t *tree) takes(v api.Value) bool {
	if kinds[t.kind] != v.Kind {
		return false
	}
	switch t.kind {
	case api.STuple:
		return takeEach(t.items, v.Items)
	case api.SList, api.SSet:
		return takesAll(t.items[0], v.Items)
	}
	return true
}

func takeEach(trees []*tree, items []api.Value) bool {
	if len(trees) != len(items) {
		return false
	}
	for i, t := range trees {
		if !t.takes(items[i]) {
			return false
		}
	}
	return true
}

func takesAll(t *tree, items []api.Value) bool {
	for _, item := range items {
		if !t.takes(item) {
			return false
		}
	}
	return true
}
