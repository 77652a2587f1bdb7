package table

import (
	"iter"

	"sextant/api"
)

// call is what is called, whoever calls: the operation, and the bytes of the argument.
type call struct{ op, arg string }

func callsOfRow(row api.Row) []call {
	var calls []call
	for _, c := range row.Calls {
		calls = append(calls, call{c.Op, key(c.Arg)})
	}
	return calls
}

func callsOfClass(class []api.Ask) []call {
	var calls []call
	for _, ask := range class {
		calls = append(calls, call{ask.Op, key(ask.Arg)})
	}
	return calls
}

// way tells of each call of a row, by its place, the place of the call of the class that it was given.
type way [api.MaxOpen]int

// ways goes through the ways to give each call of a row a like one of a class of as many, each of the class to one: the last call of the row goes through those of the class fastest.
func ways(row, class []call) iter.Seq[way] {
	return func(yield func(way) bool) {
		var given way
		var taken [api.MaxOpen]bool
		// down gives what is left from place i on, and tells whether to go on.
		var down func(i int) bool
		down = func(i int) bool {
			if i == len(row) {
				return yield(given)
			}
			found := false
			for j, c := range class {
				if taken[j] || c != row[i] {
					continue
				}
				found = true
				given[i], taken[j] = j, true
				if !down(i + 1) {
					return false
				}
				taken[j] = false
			}
			// Where none is left the class has fewer of these calls than the row, whichever were given: so there is no way at all.
			return found
		}
		down(0)
	}
}
