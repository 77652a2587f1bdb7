package sorts

import "sextant/api"

// function answers the sort of what a function gives of arguments of these sorts, as many as it takes; nil, if it does not take these.
type function func(args []*tree) *tree

// functions answers what each function of layer 5 is of, by its name.
func functions() map[string]function {
	return map[string]function{
		"size":    func(args []*tree) *tree { return given(itemOfRow(args[0]) != nil, api.SInt) },
		"head":    func(args []*tree) *tree { return itemOf(args[0], api.SList) },
		"last":    func(args []*tree) *tree { return itemOf(args[0], api.SList) },
		"tail":    func(args []*tree) *tree { return listOf(itemOf(args[0], api.SList)) },
		"at":      atOf,
		"put":     putOf,
		"push":    func(args []*tree) *tree { return listOf(join(itemOf(args[0], api.SList), args[1])) },
		"with":    setAndItem,
		"without": setAndItem,
		"list":    func(args []*tree) *tree { return listOf(itemOf(args[0], api.SSet)) },
		"set":     func(args []*tree) *tree { return setOf(itemOf(args[0], api.SList)) },
		"min":     func(args []*tree) *tree { return itemOfRow(args[0]) },
		"max":     func(args []*tree) *tree { return itemOfRow(args[0]) },
		"range":   func(args []*tree) *tree { return listOf(given(are(api.SInt, args...), api.SInt)) },
		"subsets": func(args []*tree) *tree { return setOf(setOf(itemOf(args[0], api.SSet))) },
		"gauss":   func(args []*tree) *tree { return given(are(api.SInt, args...), api.SGauss) },
		"re":      partOf,
		"im":      partOf,
		"norm":    partOf,
		"conj":    turned,
		"turn":    turned,
	}
}

func atOf(args []*tree) *tree {
	if !are(api.SInt, args[1]) {
		return nil
	}
	return itemOf(args[0], api.SList)
}

func putOf(args []*tree) *tree {
	if !are(api.SInt, args[1]) {
		return nil
	}
	return listOf(join(itemOf(args[0], api.SList), args[2]))
}

func setAndItem(args []*tree) *tree { return setOf(join(itemOf(args[0], api.SSet), args[1])) }

func partOf(args []*tree) *tree { return given(are(api.SGauss, args...), api.SInt) }

func turned(args []*tree) *tree { return given(are(api.SGauss, args...), api.SGauss) }

// ahead answers the sort of what an operator ahead of its one operand gives.
func ahead(operator string, t *tree) *tree {
	switch {
	case operator == "not":
		return given(are(api.SBool, t), api.SBool)
	case t.kind == api.SNone || t.kind == api.SInt || t.kind == api.SGauss:
		return t
	}
	return nil
}

// between answers the sort of what an operator between two operands gives.
func between(operator string, a, b *tree) *tree {
	switch operator {
	case "+", "-", "*":
		return reckoned(operator, a, b)
	case "/", "%":
		return given(are(api.SInt, a, b), api.SInt)
	case "and", "or":
		return given(are(api.SBool, a, b), api.SBool)
	case "in":
		return given(join(a, itemOfRow(b)) != nil, api.SBool)
	case "|", "&", `\`:
		return setOf(join(itemOf(a, api.SSet), itemOf(b, api.SSet)))
	}
	return given(join(a, b) != nil, api.SBool)
}

// reckoned answers the sort of a sum, a difference, or a product, in which SNone is taken for the sort of the other operand.
func reckoned(operator string, a, b *tree) *tree {
	both := join(a, b)
	if both == nil {
		return nil
	}
	switch both.kind {
	case api.SNone, api.SInt, api.SGauss:
		return both
	case api.SList:
		if operator == "+" {
			return both
		}
	}
	return nil
}

// choice answers the sort of one of two things, of which a truth decides.
func choice(condition, a, b *tree) *tree {
	if !are(api.SBool, condition) {
		return nil
	}
	return join(a, b)
}

// field answers the sort of a tuple's item.
func field(t *tree, place int64) *tree {
	switch {
	case t.kind == api.SNone:
		return t
	case t.kind == api.STuple && place < int64(len(t.items)):
		return t.items[place]
	}
	return nil
}

// given answers the sort without items of what comes, if something comes.
func given(comes bool, kind api.SortKind) *tree {
	if !comes {
		return nil
	}
	return plain(kind)
}

// are tells whether all sorts are of a kind that has no items; SNone is taken for it.
func are(kind api.SortKind, trees ...*tree) bool {
	for _, t := range trees {
		if t.kind != kind && t.kind != api.SNone {
			return false
		}
	}
	return true
}

// itemOf answers the sort of the items of what must be a list, or must be a set; SNone is taken for one that is empty.
func itemOf(t *tree, row api.SortKind) *tree {
	switch t.kind {
	case api.SNone:
		return t
	case row:
		return t.items[0]
	}
	return nil
}

// itemOfRow answers the sort of the items of what may be a list or a set.
func itemOfRow(t *tree) *tree {
	if t.kind == api.SSet {
		return t.items[0]
	}
	return itemOf(t, api.SList)
}
