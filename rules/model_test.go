package rules_test

import (
	"slices"
	"strings"

	"sextant/api"
	"sextant/eval"
	"sextant/sorts"
	"sextant/value"
)

// What the chapter says, told once more in another way, to hold the package against. Values, sorts and expressions are their layers', with tests of their own.

func modelRules(a api.Auto) bool { return !a.Table && sorts.Auto(a).Code == api.OK }

func modelRight(a api.Auto, state api.Value, class []api.Ask) bool {
	if !modelRules(a) || !sorts.Fits(a.State, state) || len(class) < 1 || len(class) > 10 || a.Mode == api.MLinear && len(class) != 1 {
		return false
	}
	isName := func(s string) bool {
		return value.Check(symbol(s)) == api.OK
	}
	for i, c := range class {
		if !isName(c.Proc) || !isName(c.Op) || !sorts.Fits(a.Arg, c.Arg) || i > 0 && strings.Compare(class[i-1].Proc, c.Proc) != -1 {
			return false
		}
	}
	return true
}

// meaning is what names mean: of like names the last one counts.
type meaning struct {
	names  []string
	values []api.Value
}

func (m meaning) with(name string, v api.Value) meaning {
	return meaning{append(slices.Clone(m.names), name), append(slices.Clone(m.values), v)}
}

func (m meaning) of(e api.Expr) (api.Value, bool) {
	v, errno := eval.Eval(e, m.names, m.values)
	return v, errno == api.OK
}

// modelBindings answers all bindings: those of all generators but the last one, and with each of them each of the last one's items.
func modelBindings(first meaning, gens []api.Gen) []meaning {
	if len(gens) == 0 {
		return []meaning{first}
	}
	last := gens[len(gens)-1]
	var all []meaning
	for _, m := range modelBindings(first, gens[:len(gens)-1]) {
		from, ok := m.of(last.From)
		if !ok || from.Kind != api.KList && from.Kind != api.KSet {
			continue
		}
		for _, item := range from.Items {
			all = append(all, m.with(last.Name, item))
		}
	}
	return all
}

func modelOutcomes(a api.Auto, state api.Value, class []api.Ask) ([]api.Outcome, api.Errno) {
	if !modelRules(a) {
		return nil, api.ErrRules
	}
	if !modelRight(a, state, class) {
		return nil, api.ErrArg
	}
	first := meaning{}.with("state", state)
	if a.Mode == api.MLinear {
		first = first.with("proc", symbol(class[0].Proc)).with("op", symbol(class[0].Op)).with("arg", class[0].Arg)
	} else {
		calls := rowOf(api.KSet)
		for _, c := range class {
			calls.Items = append(calls.Items, rowOf(api.KTuple, symbol(c.Proc), symbol(c.Op), c.Arg))
		}
		slices.SortFunc(calls.Items, value.Compare)
		if value.Check(calls) != api.OK {
			return nil, api.OK
		}
		first = first.with("calls", calls)
	}
	var all []api.Outcome
	for _, r := range a.Rules {
		bindings := modelBindings(first, r.Gens)
		for _, m := range bindings[:min(len(bindings), 4096)] {
			if o, ok := modelOutcome(a.Mode, r, m, class); ok {
				all = append(all, o)
			}
		}
	}
	slices.SortStableFunc(all, modelCompare)
	all = slices.CompactFunc(all, sameOutcome)
	return all[:min(len(all), 512)], api.OK
}

// modelOutcome answers what a rule comes to where names mean that, if it comes to something.
func modelOutcome(mode api.Mode, r api.Rule, m meaning, class []api.Ask) (api.Outcome, bool) {
	when, good := m.of(r.When)
	give, some := m.of(r.Give)
	next, whole := m.of(r.Next)
	if !good || !sameValue(when, value.Bool(true)) || !some || !whole {
		return api.Outcome{}, false
	}
	if mode == api.MLinear {
		return api.Outcome{Answers: []api.Answer{{Proc: class[0].Proc, Value: give}}, Next: next}, true
	}
	o := api.Outcome{Next: next}
	asking, answered := map[string]bool{}, map[string]bool{}
	for _, pair := range give.Items {
		o.Answers = append(o.Answers, api.Answer{Proc: pair.Items[0].Text, Value: pair.Items[1]})
		answered[pair.Items[0].Text] = true
	}
	for _, c := range class {
		asking[c.Proc] = true
	}
	if len(o.Answers) == 0 || len(answered) < len(o.Answers) {
		return api.Outcome{}, false
	}
	slices.SortFunc(o.Answers, func(x, y api.Answer) int { return strings.Compare(x.Proc, y.Proc) })
	for p := range answered {
		if mode == api.MSet && !asking[p] {
			return api.Outcome{}, false
		}
	}
	return o, mode == api.MInterval || len(answered) == len(asking)
}

func modelCompare(a, b api.Outcome) int {
	if len(a.Answers) != len(b.Answers) {
		return map[bool]int{true: -1, false: 1}[len(a.Answers) < len(b.Answers)]
	}
	for i, x := range a.Answers {
		y := b.Answers[i]
		switch {
		case x.Proc < y.Proc:
			return -1
		case x.Proc > y.Proc:
			return 1
		case value.Compare(x.Value, y.Value) != 0:
			return value.Compare(x.Value, y.Value)
		}
	}
	return value.Compare(a.Next, b.Next)
}
