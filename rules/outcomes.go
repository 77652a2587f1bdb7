package rules

import (
	"slices"

	"sextant/api"
)

// outcomes lists what a class comes to under an automaton that takes it.
func outcomes(a api.Auto, state api.Value, class []api.Ask) []api.Outcome {
	known, ok := knownOf(a.Mode, state, class)
	if !ok {
		return nil
	}
	var first []api.Outcome
	for _, r := range a.Rules {
		named := ruleOf(r, known.names)
		for binding := range named.bindings(known.values) {
			o, ok := named.outcome(binding, a.Mode, class)
			if ok && mayBe(o.Answers, a.Mode, class) {
				first = put(first, o)
			}
		}
	}
	return first
}

// outcome answers what a binding comes to, if its guard is true and all has a value. What comes of evaluating is new memory, which nothing else holds.
func (r rule) outcome(binding []api.Value, mode api.Mode, class []api.Ask) (api.Outcome, bool) {
	when, ok := r.when.value(binding)
	if !ok || when.Int == 0 {
		return api.Outcome{}, false
	}
	give, ok := r.give.value(binding)
	if !ok {
		return api.Outcome{}, false
	}
	next, ok := r.next.value(binding)
	if !ok {
		return api.Outcome{}, false
	}
	return api.Outcome{Answers: answersOf(give, mode, class), Next: next}, true
}

// answersOf answers the replies that a rule's value means. A set of tuples rises by what stands first in them, and so do the processes.
func answersOf(give api.Value, mode api.Mode, class []api.Ask) []api.Answer {
	if mode == api.MLinear {
		return []api.Answer{{Proc: class[0].Proc, Value: give}}
	}
	var answers []api.Answer
	for _, pair := range give.Items {
		answers = append(answers, api.Answer{Proc: pair.Items[0].Text, Value: pair.Items[1]})
	}
	return answers
}

// mayBe tells whether a class may be answered so in a mode: somebody, nobody twice, and in mode set just those of the class.
func mayBe(answers []api.Answer, mode api.Mode, class []api.Ask) bool {
	for i := range answers {
		if i > 0 && answers[i-1].Proc == answers[i].Proc {
			return false
		}
	}
	if mode == api.MSet {
		return slices.EqualFunc(answers, class, func(r api.Answer, c api.Ask) bool { return r.Proc == c.Proc })
	}
	return len(answers) > 0
}

// put puts an outcome into a rising list, unless it is there, and leaves out what is beyond the first MaxOutcomes.
func put(first []api.Outcome, o api.Outcome) []api.Outcome {
	i, ok := slices.BinarySearchFunc(first, o, Compare)
	if ok || i == api.MaxOutcomes {
		return first
	}
	first = slices.Insert(first, i, o)
	return first[:min(len(first), api.MaxOutcomes)]
}
