package syntax

import (
	"iter"
	"slices"

	"sextant/api"
	"sextant/value"
)

// Same tells whether two specifications are alike but for spots.
func Same(a, b api.Spec) bool {
	return slices.EqualFunc(a.Autos, b.Autos, sameAuto) && slices.EqualFunc(a.Binds, b.Binds, sameBind)
}

func sameBind(a, b api.Bind) bool { return a.Object == b.Object && a.Auto == b.Auto }

func sameAuto(a, b api.Auto) bool {
	return a.Name == b.Name && a.Mode == b.Mode && a.Table == b.Table &&
		SameSort(a.Arg, b.Arg) && SameSort(a.Reply, b.Reply) && SameSort(a.State, b.State) &&
		SameExpr(a.Start, b.Start) &&
		slices.EqualFunc(a.Rules, b.Rules, sameRule) && slices.EqualFunc(a.Rows, b.Rows, sameRow)
}

func sameRule(a, b api.Rule) bool {
	return a.Name == b.Name && slices.EqualFunc(a.Gens, b.Gens, sameGen) &&
		SameExpr(a.When, b.When) && SameExpr(a.Give, b.Give) && SameExpr(a.Next, b.Next)
}

func sameGen(a, b api.Gen) bool { return a.Name == b.Name && SameExpr(a.From, b.From) }

func sameRow(a, b api.Row) bool {
	return sameValue(a.From, b.From) && sameValue(a.To, b.To) &&
		slices.EqualFunc(a.Calls, b.Calls, sameCall) && slices.EqualFunc(a.Replies, b.Replies, sameReply)
}

func sameCall(a, b api.RowCall) bool {
	return a.Who == b.Who && a.Op == b.Op && sameValue(a.Arg, b.Arg)
}

func sameReply(a, b api.RowReply) bool { return a.Who == b.Who && sameValue(a.Value, b.Value) }

// sameValue asks for a right value, too: layer 4 takes any two that are not right for alike.
func sameValue(a, b api.Value) bool {
	return value.Check(a) == api.OK && value.Compare(a, b) == 0
}

// SameSort tells whether two sorts are alike.
func SameSort(a, b api.Sort) bool {
	return a.Kind == b.Kind && slices.EqualFunc(a.Items, b.Items, SameSort)
}

// SameExpr tells whether two expressions are alike but for spots. What Walk meets of the one is held against what it would meet of the other: how many items each has tells which are whose.
func SameExpr(a, b api.Expr) bool {
	left := []api.Expr{a} // the next one stands last
	for e := range Walk(b) {
		next := left[len(left)-1]
		if !sameNode(next, e) {
			return false
		}
		left = left[:len(left)-1]
		for _, item := range slices.Backward(next.Items) {
			left = append(left, item)
		}
	}
	return true
}

// sameNode holds expressions against each other, of their items how many there are alone.
func sameNode(a, b api.Expr) bool {
	valued := a.Kind == api.ELit || a.Kind == api.EField
	return a.Kind == b.Kind && a.Name == b.Name && a.Also == b.Also && a.Op == b.Op &&
		len(a.Items) == len(b.Items) && (!valued || sameValue(a.Value, b.Value))
}

// Walk goes through an expression and all that are in it.
func Walk(e api.Expr) iter.Seq[api.Expr] {
	return func(yield func(api.Expr) bool) {
		var down func(*api.Expr) bool
		down = func(e *api.Expr) bool {
			if !yield(*e) {
				return false
			}
			for i := range e.Items {
				if !down(&e.Items[i]) {
					return false
				}
			}
			return true
		}
		down(&e)
	}
}
