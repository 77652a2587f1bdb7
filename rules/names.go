package rules

import (
	"sextant/api"
	"sextant/eval"
	"sextant/value"
)

// known is what names mean in every rule: names, and their values at the same places.
type known struct {
	names  []string
	values []api.Value
}

// knownOf answers what names mean ahead of all generators; false, if that is above the limits of values.
func knownOf(mode api.Mode, state api.Value, class []api.Ask) (known, bool) {
	if mode == api.MLinear {
		c := parts(class[0])
		return known{[]string{"state", "proc", "op", "arg"}, append([]api.Value{state}, c...)}, true
	}
	calls, ok := callsOf(class)
	return known{[]string{"state", "calls"}, []api.Value{state, calls}}, ok
}

// parts answers a right call's process, operation and argument.
func parts(c api.Ask) []api.Value {
	proc, _ := value.Symbol(c.Proc)
	op, _ := value.Symbol(c.Op)
	return []api.Value{proc, op, c.Arg}
}

// callsOf answers the set of the calls of a class; false, if it is above the limits.
func callsOf(class []api.Ask) (api.Value, bool) {
	var calls []api.Value
	for _, c := range class {
		call, errno := value.Tuple(parts(c)...)
		if errno != api.OK {
			return api.Value{}, false
		}
		calls = append(calls, call)
	}
	set, errno := value.Set(calls...)
	return set, errno == api.OK
}

// A binding is a row of values: those that names mean in every rule, and behind them an item of each generator.

// term is an expression of a rule: the names that are free in it, and at which places of a binding their values stand. What other names mean turns nothing, and would be looked through at each evaluation.
type term struct {
	expr   api.Expr
	names  []string
	places []int
}

// termOf answers the term of an expression without a fault, where the last one of each name stands at this place.
func termOf(e api.Expr, places map[string]int) term {
	t := term{expr: e, names: eval.Free(e)}
	for _, name := range t.names {
		t.places = append(t.places, places[name])
	}
	return t
}

// value answers the value of a term, if it has one.
func (t term) value(binding []api.Value) (api.Value, bool) {
	values := make([]api.Value, len(t.places))
	for i, place := range t.places {
		values[i] = binding[place]
	}
	v, errno := eval.Eval(t.expr, t.names, values)
	return v, errno == api.OK
}

// rule is a guarded rule whose names have been found.
type rule struct {
	gens             []gen
	when, give, next term
}

// gen is a generator of a rule: where its items come from; whether those of a generator behind it hang on its item.
type gen struct {
	from  term
	asked bool
}

// ruleOf finds the names of a rule in which there is no fault.
func ruleOf(r api.Rule, names []string) rule {
	places := map[string]int{}
	for i, name := range names {
		places[name] = i
	}
	gens := make([]gen, len(r.Gens))
	for i, g := range r.Gens {
		gens[i].from = termOf(g.From, places)
		for _, place := range gens[i].from.places {
			if place >= len(names) {
				gens[place-len(names)].asked = true
			}
		}
		places[g.Name] = len(names) + i
	}
	return rule{gens, termOf(r.When, places), termOf(r.Give, places), termOf(r.Next, places)}
}
