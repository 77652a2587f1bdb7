package rules

import (
	"iter"

	"sextant/api"
)

// items answers what a generator goes through, where it stands in a binding of the generators ahead of it.
func (g gen) items(binding []api.Value) []api.Value {
	from, ok := g.from.value(binding)
	if !ok || from.Kind != api.KList && from.Kind != api.KSet {
		return nil
	}
	return from.Items
}

// bindings goes through the first bindings of a rule, the last generator fastest. It gives one row, which is another binding each time.
func (r rule) bindings(known []api.Value) iter.Seq[[]api.Value] {
	return func(yield func([]api.Value) bool) {
		binding := make([]api.Value, len(known)+len(r.gens))
		copy(binding, known)
		tries := 0
		// down goes through what the generators from place i on make of the binding, and tells whether to go on.
		var down func(i int) bool
		down = func(i int) bool {
			if i == len(r.gens) {
				tries++
				return yield(binding) && tries < api.MaxTries
			}
			for _, item := range r.gens[i].items(binding) {
				binding[len(known)+i] = item
				before := tries
				if !down(i + 1) {
					return false
				}
				// The generators behind come to nothing with any other item, too, if they do not hang on it: none of many need be tried.
				if tries == before && !r.gens[i].asked {
					break
				}
			}
			return true
		}
		down(0)
	}
}
