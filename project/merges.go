package project

import (
	"iter"

	"sextant/api"
)

// Merges goes through the interleavings of two histories, those first that take from a.
func Merges(a, b []api.Event) iter.Seq[[]api.Event] {
	// Copies: the caller may change the events ahead of the ranging, or within it.
	first, second := copied(a), copied(b)
	return func(yield func([]api.Event) bool) {
		// Each step goes down by an event of the second, not by every event: so it is no deeper than rows have come.
		var down func(ahead, first, second []api.Event) bool
		down = func(ahead, first, second []api.Event) bool {
			if len(first) == 0 || len(second) == 0 {
				return yield(copied(append(append(ahead, first...), second...)))
			}
			for taken := len(first); taken >= 0; taken-- {
				next := append(append(ahead, first[:taken]...), second[0])
				if !down(next, first[taken:], second[1:]) {
					return false
				}
			}
			return true
		}
		// All rows are written into one place that has room for them: what is ahead stays, what is behind is written anew.
		down(make([]api.Event, 0, len(first)+len(second)), first, second)
	}
}
