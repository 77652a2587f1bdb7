package bits

import (
	"iter"
	"slices"

	"sextant/api"
)

// Subsets goes through the rows that come by leaving items out.
func Subsets(items []int) iter.Seq[[]int] {
	var own []int
	if len(items) <= api.MaxOpen {
		// A copy: the caller may change the items ahead of the ranging, or within it.
		own = slices.Clone(items)
	}
	return func(yield func([]int) bool) {
		for size := 1; size <= len(own); size++ {
			places := firstPlaces(size)
			for more := true; more; more = nextPlaces(places, len(own)) {
				if !yield(pick(own, places)) {
					return
				}
			}
		}
	}
}

// firstPlaces answers the places with which the rows of a length begin.
func firstPlaces(size int) []int {
	places := make([]int, size)
	for k := range places {
		places[k] = k
	}
	return places
}

// nextPlaces turns places among n into those that come next, if there are such.
func nextPlaces(places []int, n int) bool {
	size := len(places)
	for k := size - 1; k >= 0; k-- {
		// Behind place k there must be room for those that follow it.
		if places[k] == n-size+k {
			continue
		}
		places[k]++
		for j := k + 1; j < size; j++ {
			places[j] = places[j-1] + 1
		}
		return true
	}
	return false
}

// pick answers what stands in the places, as a row of its own.
func pick(items, places []int) []int {
	row := make([]int, len(places))
	for k, p := range places {
		row[k] = items[p]
	}
	return row
}
