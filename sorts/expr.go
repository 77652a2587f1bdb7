package sorts

import (
	"sextant/api"
	"sextant/arith"
	"sextant/value"
)

// deepest is how many expressions are taken within one another: more than the document's bound lets in, and no more than a stack holds. (A list may be an item of itself.)
const deepest = 1 << 18

// checker finds the sorts of expressions; at the first fault it gives up by a panic with it.
type checker struct {
	functions map[string]function
	scope     map[string][]*tree // of each name its sorts, the one that counts last
}

func newChecker() *checker {
	return &checker{functions: functions(), scope: map[string][]*tree{}}
}

func (c *checker) bind(name string, t *tree) { c.scope[name] = append(c.scope[name], t) }

// unbind takes back what was bound last.
func (c *checker) unbind(name string) {
	sorts := c.scope[name]
	c.scope[name] = sorts[:len(sorts)-1]
}

// nest is where an expression stands: within how many others, and within the third items of how many folds.
type nest struct{ deep, folds int }

// expr answers the sort of an expression.
func (c *checker) expr(e *api.Expr, in nest) *tree {
	if in.deep == deepest || !formed(e, in.folds) {
		giveUp(api.ErrUnlike, e.At)
	}
	t := c.sortOf(e, nest{in.deep + 1, in.folds})
	if t == nil {
		giveUp(api.ErrUnlike, e.At)
	}
	return t
}

// exprWithin asks for a sort that lies within another.
func (c *checker) exprWithin(e *api.Expr, wanted *tree) {
	if !within(c.expr(e, nest{}), wanted) {
		giveUp(api.ErrUnlike, e.At)
	}
}

// sortOf answers the sort of an expression that is formed, and whose items lie there; nil, if it has none though its items have.
func (c *checker) sortOf(e *api.Expr, inner nest) *tree {
	switch e.Kind {
	case api.ELit:
		return of(e.Value)
	case api.EName:
		return c.name(e)
	case api.ELet:
		return c.let(e, inner)
	case api.EFold:
		return c.fold(e, inner)
	}
	items := make([]*tree, len(e.Items))
	for i := range e.Items {
		items[i] = c.expr(&e.Items[i], inner)
	}
	return c.ofItems(e, items)
}

// ofItems answers the sort of an expression that binds no name, by those of its items.
func (c *checker) ofItems(e *api.Expr, items []*tree) *tree {
	switch e.Kind {
	case api.ETuple:
		return grow(api.STuple, items...)
	case api.EList:
		return listOf(joined(items))
	case api.ESet:
		return setOf(joined(items))
	case api.EUnary:
		return ahead(e.Op, items[0])
	case api.EBin:
		return between(e.Op, items[0], items[1])
	case api.EIf:
		return choice(items[0], items[1], items[2])
	case api.EField:
		return field(items[0], e.Value.Int)
	}
	return c.call(e, items)
}

func (c *checker) name(e *api.Expr) *tree {
	sorts := c.scope[e.Name]
	if len(sorts) == 0 {
		giveUp(api.ErrUnknown, e.At)
	}
	return sorts[len(sorts)-1]
}

func (c *checker) let(e *api.Expr, inner nest) *tree {
	c.bind(e.Name, c.expr(&e.Items[0], inner))
	t := c.expr(&e.Items[1], inner)
	c.unbind(e.Name)
	return t
}

// fold asks for a sort of what is so far that the third item does not lead out of.
func (c *checker) fold(e *api.Expr, inner nest) *tree {
	over, from := c.expr(&e.Items[0], inner), c.expr(&e.Items[1], inner)
	item := itemOfRow(over)
	isRow := item != nil
	if !isRow { // which is told behind the faults of the third item
		item = plain(api.SNone)
	}
	whole := join(from, c.turn(e, item, from, inner))
	if whole == nil {
		return nil
	}
	// Where the third item leads nowhere else it would be looked at in the same scope once more.
	stays := whole == from || within(c.turn(e, item, whole, inner), whole)
	if !stays || !isRow {
		return nil
	}
	return whole
}

// turn answers the sort of a fold's third item, where an item and what is so far have these sorts.
func (c *checker) turn(e *api.Expr, item, soFar *tree, inner nest) *tree {
	c.bind(e.Name, item)
	c.bind(e.Also, soFar)
	t := c.expr(&e.Items[2], nest{inner.deep, inner.folds + 1})
	c.unbind(e.Also)
	c.unbind(e.Name)
	return t
}

func (c *checker) call(e *api.Expr, args []*tree) *tree {
	if arith.Arity(e.Op) != len(args) {
		giveUp(api.ErrUnknown, e.At)
	}
	return c.functions[e.Op](args)
}

// formed tells whether an expression is one of a text's in its form; its items are not looked at.
func formed(e *api.Expr, folds int) bool {
	items := len(e.Items)
	switch e.Kind {
	case api.ELit:
		return items == 0 && value.Check(e.Value) == api.OK
	case api.EName:
		return items == 0 && isName(e.Name)
	case api.ETuple, api.EList, api.ESet, api.ECall:
		return true
	case api.EUnary:
		return items == 1 && (e.Op == "-" || e.Op == "not")
	case api.EBin:
		return items == 2 && isOperator(e.Op)
	case api.EIf:
		return items == 3
	case api.ELet:
		return items == 2 && isName(e.Name)
	case api.EFold:
		return items == 3 && isName(e.Name) && isName(e.Also) && folds < api.MaxFolds
	case api.EField:
		return items == 1 && isPlace(e.Value)
	}
	return false
}

// isName tells whether a text is a name. (All but two of them are symbols' names, too.)
func isName(s string) bool { return s == "true" || s == "false" || isSymbol(s) }

func isSymbol(s string) bool {
	_, e := value.Symbol(s)
	return e == api.OK
}

func isOperator(s string) bool {
	switch s {
	case "or", "and", "==", "!=", "<", "<=", ">", ">=", "in", "|", "&", `\`, "+", "-", "*", "/", "%":
		return true
	}
	return false
}

// isPlace tells whether a value may be the place of a field.
func isPlace(v api.Value) bool {
	return v.Kind == api.KInt && v.Int >= 0 && value.Check(v) == api.OK
}
