package spell

import (
	"slices"

	"sextant/api"
	"sextant/text"
)

// The levels of expressions, from those that bind least on.
const (
	levelAny = iota
	levelOr
	levelAnd
	levelNot
	levelCompare
	levelSets
	levelSum
	levelProduct
	levelMinus
	levelAtom
	levelNone // no expression has it: whatever stands there is in brackets
)

// level tells an expression's level. That of a number below 0, with fields or without, would be levelMinus; but where levelAtom is wanted, ahead of a field, it stands as it is all the same: there the minus is the number's own.
func level(e *api.Expr) int {
	switch e.Kind {
	case api.EIf, api.ELet, api.EFold:
		return levelAny
	case api.EBin:
		return levelBetween(e.Op)
	case api.EUnary:
		if e.Op == "not" {
			return levelNot
		}
		return levelMinus
	}
	return levelAtom
}

// levelBetween tells the level of an operator with two operands.
func levelBetween(operator string) int {
	switch operator {
	case "or":
		return levelOr
	case "and":
		return levelAnd
	case "==", "!=", "<", "<=", ">", ">=", "in":
		return levelCompare
	case "|", "&", `\`:
		return levelSets
	case "+", "-":
		return levelSum
	case "*", "/", "%":
		return levelProduct
	}
	return levelAtom
}

// expr writes an expression where any may stand.
func (w *writer) expr(e api.Expr) { w.bare(&e) }

// at writes an expression where one of less than this level stands in brackets.
func (w *writer) at(wanted int, e *api.Expr) {
	if level(e) >= wanted {
		w.bare(e)
		return
	}
	w.round(func() { w.bare(e) })
}

// bare writes an expression without brackets around it.
func (w *writer) bare(e *api.Expr) {
	switch e.Kind {
	case api.ELit:
		w.literal(e.Value)
	case api.EName:
		w.put(e.Name)
	case api.ETuple:
		tuple(w, e.Items, w.expr)
	case api.EList:
		enclosed(w, "[", "]", e.Items, w.expr)
	case api.ESet:
		enclosed(w, "{", "}", e.Items, w.expr)
	case api.EUnary:
		w.unary(e)
	case api.EBin:
		w.pair(e)
	case api.EIf:
		w.behind(e.Items, "if ", " then ", " else ")
	case api.ELet:
		w.behind(e.Items, "let "+e.Name+" = ", " do ")
	case api.EFold:
		w.behind(e.Items, "fold "+e.Name+", "+e.Also+" over ", " from ", " with ")
	case api.ECall:
		enclosed(w, e.Op+"(", ")", e.Items, w.expr)
	case api.EField:
		w.field(e)
	}
}

// literal writes a value that is one in expressions, too: there a list is no literal, but an expression of its items.
func (w *writer) literal(v api.Value) {
	switch v.Kind {
	case api.KInt, api.KBool, api.KSym:
		w.value(v)
	}
}

// behind writes words, each with the expression behind it, as far as there are both.
func (w *writer) behind(items []api.Expr, words ...string) {
	for i := range min(len(items), len(words)) {
		w.put(words[i])
		w.bare(&items[i])
	}
}

func (w *writer) unary(e *api.Expr) {
	if len(e.Items) != 1 {
		return
	}
	item := &e.Items[0]
	if e.Op == "not" {
		w.put("not ")
		w.at(levelNot, item)
		return
	}
	wanted := levelMinus
	if beginsWithDigit(item) {
		wanted = levelNone // the minus and the number would be one below 0
	}
	w.put(e.Op)
	w.at(wanted, item)
}

// beginsWithDigit looks at what is of levelAtom alone: all else stands in brackets behind a minus, or begins with one.
func beginsWithDigit(e *api.Expr) bool {
	for isField(e) {
		e = &e.Items[0]
	}
	return e.Kind == api.ELit && e.Value.Kind == api.KInt && e.Value.Int >= 0
}

func (w *writer) pair(e *api.Expr) {
	if !isPair(e) {
		return
	}
	own := level(e)
	second := func(x *api.Expr) {
		w.put(" ", x.Op, " ")
		w.at(own+1, &x.Items[1])
	}
	if own == levelCompare { // these do not stand in a row
		w.at(own+1, &e.Items[0])
		second(e)
		return
	}
	fromLeft(e,
		func(x *api.Expr) bool { return isPair(x) && level(x) == own },
		func(x *api.Expr) { w.at(own, x) },
		second)
}

func (w *writer) field(e *api.Expr) {
	if !isField(e) {
		return
	}
	fromLeft(e, isField,
		func(x *api.Expr) { w.at(levelAtom, x) },
		func(x *api.Expr) { w.put(".", text.Decimal(x.Value.Int)) })
}

func isPair(e *api.Expr) bool { return e.Kind == api.EBin && len(e.Items) == 2 }

func isField(e *api.Expr) bool { return e.Kind == api.EField && len(e.Items) == 1 }

// fromLeft goes through a row that is grouped from the left: from an expression down to its first item as long as that goes on; then first is told where it ends, and behind each that goes on, the innermost one first. (A row may be far longer than brackets may be deep: so this does not call itself.)
func fromLeft(e *api.Expr, goesOn func(*api.Expr) bool, first, behind func(*api.Expr)) {
	var row []*api.Expr
	for goesOn(e) {
		row = append(row, e)
		e = &e.Items[0]
	}
	first(e)
	for _, x := range slices.Backward(row) {
		behind(x)
	}
}
