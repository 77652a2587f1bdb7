package table

import (
	"cmp"
	"math"
	"slices"

	"sextant/api"
	"sextant/value"
)

// rowsFrom answers the rows that lead on from a state with so many calls.
func rowsFrom(rows []api.Row, state api.Value, calls int) []api.Row {
	from := key(state)
	var own []api.Row
	for _, row := range rows {
		if len(row.Calls) == calls && key(row.From) == from {
			own = append(own, row)
		}
	}
	return own
}

// outcomes lists what a class comes to by rows of as many calls.
func outcomes(rows []api.Row, class []api.Ask) []api.Outcome {
	known := rank(valuesOf(rows))
	asked := callsOfClass(class)
	var first []result
	for _, row := range rows {
		gives := known.answersOf(row)
		looked := 0
		for w := range ways(callsOfRow(row), asked) {
			first = put(first, gives.along(w[:len(class)]))
			if looked++; looked == api.MaxWays {
				break
			}
		}
	}
	var list []api.Outcome
	for _, r := range first {
		list = append(list, known.outcome(r, class))
	}
	return list
}

// valuesOf answers the values that rows can bring into outcomes.
func valuesOf(rows []api.Row) []api.Value {
	var values []api.Value
	for _, row := range rows {
		for _, reply := range row.Replies {
			values = append(values, reply.Value)
		}
		values = append(values, row.To)
	}
	return values
}

// ranks give values numbers, the lesser ones to those that come first. A row may come to thousands of outcomes, and numbers are soon held against each other, but values are not.
type ranks struct {
	values  []api.Value
	numbers map[string]int // by the bytes of the values
}

func rank(values []api.Value) ranks {
	slices.SortFunc(values, value.Compare)
	r := ranks{numbers: map[string]int{}}
	for _, v := range values {
		k := key(v)
		if _, ok := r.numbers[k]; !ok {
			r.numbers[k] = len(r.values)
			r.values = append(r.values, v)
		}
	}
	return r
}

// noAnswer stands where a call gets no answer. It lies above all numbers: of outcomes of as many answers the one comes first that answers the earlier process.
const noAnswer = math.MaxInt

// result is an outcome in numbers: how many answers, of each call (at its place in the class, or in the row) what it is answered, and the next state.
type result struct {
	answers int
	values  [api.MaxOpen]int
	next    int
}

// compare orders results of one class as Compare orders their outcomes.
func (r result) compare(s result) int {
	return cmp.Or(
		cmp.Compare(r.answers, s.answers),
		slices.Compare(r.values[:], s.values[:]),
		cmp.Compare(r.next, s.next),
	)
}

// answersOf answers what a row comes to, by the places of its own calls.
func (k ranks) answersOf(row api.Row) result {
	got := map[string]int{}
	for _, reply := range row.Replies {
		got[reply.Who] = k.numbers[key(reply.Value)]
	}
	r := result{answers: len(row.Replies), next: k.numbers[key(row.To)]}
	for i, c := range row.Calls {
		r.values[i] = noAnswer
		if n, ok := got[c.Who]; ok {
			r.values[i] = n
		}
	}
	return r
}

// along answers what a row's result is to a class, if its calls are given those at these places.
func (r result) along(places []int) result {
	s := result{answers: r.answers, next: r.next}
	for i, place := range places {
		s.values[place] = r.values[i]
	}
	return s
}

// put puts a result into a rising list, unless it is there, and leaves out what is beyond the first MaxOutcomes.
func put(first []result, r result) []result {
	i, ok := slices.BinarySearchFunc(first, r, result.compare)
	if ok {
		return first
	}
	first = slices.Insert(first, i, r)
	return first[:min(len(first), api.MaxOutcomes)]
}

// outcome answers the outcome of a class that a result tells.
func (k ranks) outcome(r result, class []api.Ask) api.Outcome {
	o := api.Outcome{Next: copied(k.values[r.next])}
	for i, ask := range class {
		if n := r.values[i]; n != noAnswer {
			o.Answers = append(o.Answers, api.Answer{Proc: ask.Proc, Value: copied(k.values[n])})
		}
	}
	return o
}
