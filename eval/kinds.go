package eval

import (
	"sextant/api"
	"sextant/text"
	"sextant/value"
)

// kind is what there is to know of a kind of expressions.
type kind struct {
	formed func(e *api.Expr) bool                           // whether an expression is formed, but for its items
	value  func(r *run, e *api.Expr) (api.Value, api.Errno) // the value of a formed one that has been begun
}

func kinds() map[api.ExprKind]kind {
	return map[api.ExprKind]kind{
		api.ELit:   {isLiteral, literal},
		api.EName:  {isNamed, named},
		api.ETuple: {isOfAny, row(value.Tuple)},
		api.EList:  {isOfAny, row(value.List)},
		api.ESet:   {isOfAny, row(value.Set)},
		api.EUnary: {isUnary, unary},
		api.EBin:   {isBinary, binary},
		api.EIf:    {isChoice, choice},
		api.ELet:   {isLet, let},
		api.EFold:  {isFold, fold},
		api.ECall:  {isOfAny, call},
		api.EField: {isField, field},
	}
}

// formed tells whether an expression is formed that lies within so many others.
func formed(known map[api.ExprKind]kind, e *api.Expr, deep int) bool {
	k, ok := known[e.Kind]
	if !ok || deep == deepest || !k.formed(e) {
		return false
	}
	for i := range e.Items {
		if !formed(known, &e.Items[i], deep+1) {
			return false
		}
	}
	return true
}

func isLiteral(e *api.Expr) bool { return len(e.Items) == 0 && value.Check(e.Value) == api.OK }

func isNamed(e *api.Expr) bool { return len(e.Items) == 0 && isName(e.Name) }

func isOfAny(*api.Expr) bool { return true }

func isUnary(e *api.Expr) bool { return len(e.Items) == 1 && (e.Op == "-" || e.Op == "not") }

func isBinary(e *api.Expr) bool { return len(e.Items) == 2 && isOperator(e.Op) }

func isChoice(e *api.Expr) bool { return len(e.Items) == 3 }

func isLet(e *api.Expr) bool { return len(e.Items) == 2 && isName(e.Name) }

func isFold(e *api.Expr) bool { return len(e.Items) == 3 && isName(e.Name) && isName(e.Also) }

func isField(e *api.Expr) bool { return len(e.Items) == 1 && e.Value.Int >= 0 }

func isName(s string) bool { return text.Name(s) == api.OK }

func isOperator(s string) bool {
	switch s {
	case "+", "-", "*", "/", "%", "==", "!=", "<", "<=", ">", ">=", "and", "or", "in", "|", "&", `\`:
		return true
	}
	return false
}
