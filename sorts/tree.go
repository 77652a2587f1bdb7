package sorts

import (
	"slices"

	"sextant/api"
)

// tree is a sort that may be. It knows how great it is, and may be a part of many others: so a great one is neither counted nor copied again wherever it stands. A nil tree stands where there is no sort, and what is made of it is nil, too.
type tree struct {
	kind   api.SortKind
	items  []*tree
	parts  int
	levels int
}

// plain makes a sort without items.
func plain(kind api.SortKind) *tree { return &tree{kind: kind, parts: 1, levels: 1} }

// grow makes a sort of its items; nil, if it has too many parts or levels.
func grow(kind api.SortKind, items ...*tree) *tree {
	t := &tree{kind: kind, items: items, parts: 1, levels: 1}
	for _, item := range items {
		if item == nil {
			return nil
		}
		t.parts += item.parts
		t.levels = max(t.levels, item.levels+1)
	}
	if t.parts > api.MaxNodes || t.levels > api.MaxNest {
		return nil
	}
	return t
}

// read answers nil of a sort that may not be.
func read(s api.Sort) *tree {
	room := api.MaxNodes
	return readWithin(s, api.MaxNest, &room)
}

// readWithin reads a sort of at most so many levels, and takes its parts from the room. Levels and room come ahead of all else: a list may be an item of itself, and then nothing but they ends the way down.
func readWithin(s api.Sort, levels int, room *int) *tree {
	if levels == 0 || *room == 0 || !mayHave(s.Kind, len(s.Items)) {
		return nil
	}
	*room--
	var items []*tree
	for _, item := range s.Items {
		t := readWithin(item, levels-1, room)
		if t == nil {
			return nil
		}
		items = append(items, t)
	}
	return grow(s.Kind, items...)
}

// mayHave tells whether a sort of that kind may have so many items.
func mayHave(kind api.SortKind, items int) bool {
	switch kind {
	case api.STuple:
		return true
	case api.SList, api.SSet:
		return items == 1
	case api.SNone, api.SInt, api.SBool, api.SSym, api.SGauss:
		return items == 0
	}
	return false
}

// readRight answers nil of a sort that is not right.
func readRight(s api.Sort) *tree {
	t := read(s)
	if t == nil || t.hasNone() {
		return nil
	}
	return t
}

// readOrNone takes a sort that may not be for SNone.
func readOrNone(s api.Sort) *tree {
	if t := read(s); t != nil {
		return t
	}
	return plain(api.SNone)
}

// hasNone tells whether SNone is a part.
func (t *tree) hasNone() bool {
	return t.kind == api.SNone || slices.ContainsFunc(t.items, (*tree).hasNone)
}

// sort answers the sort in memory of its own.
func (t *tree) sort() api.Sort {
	s := api.Sort{Kind: t.kind}
	for _, item := range t.items {
		s.Items = append(s.Items, item.sort())
	}
	return s
}

func within(a, b *tree) bool {
	return a == b || a.kind == api.SNone ||
		a.kind == b.kind && slices.EqualFunc(a.items, b.items, within)
}

// join answers the least sort that both lie within: a itself, if b lies within it.
func join(a, b *tree) *tree {
	switch {
	case a == nil || b == nil:
		return nil
	case a == b || b.kind == api.SNone:
		return a
	case a.kind == api.SNone:
		return b
	case a.kind != b.kind || len(a.items) != len(b.items):
		return nil
	}
	items := make([]*tree, len(a.items))
	for i := range items {
		items[i] = join(a.items[i], b.items[i])
	}
	if slices.Equal(items, a.items) {
		return a
	}
	return grow(a.kind, items...)
}

// joined answers the least sort that all lie within.
func joined(trees []*tree) *tree {
	least := plain(api.SNone)
	for _, t := range trees {
		least = join(least, t)
	}
	return least
}

// listOf and setOf answer the sort of lists and of sets of such items.
func listOf(item *tree) *tree { return grow(api.SList, item) }
func setOf(item *tree) *tree  { return grow(api.SSet, item) }
