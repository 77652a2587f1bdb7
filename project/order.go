package project

import (
	"maps"

	"sextant/api"
	"sextant/event"
)

// Alike tells whether each process does the same in both histories.
func Alike(a, b []api.Event) bool {
	return maps.EqualFunc(byProc(a), byProc(b), event.Same)
}

// byProc answers the parts of all processes, which share memory with l.
func byProc(l []api.Event) map[string][]api.Event {
	parts := map[string][]api.Event{}
	for _, ev := range l {
		parts[ev.Proc] = append(parts[ev.Proc], ev)
	}
	return parts
}

// Keeps tells whether what precedes an invocation in a does so in b.
func Keeps(a, b []api.Event) bool {
	return Alike(a, b) && keepsOrder(a, b)
}

// call names an invocation in each of two histories that are alike: it is the one of that number, from 1 on, of its process.
type call struct {
	proc   string
	number int
}

// callsOf answers of each invocation the call that it is, of each response the one that it ends; the zero call of all else.
func callsOf(l []api.Event) []call {
	calls := make([]call, len(l))
	made := map[string]int{}
	for at, partner := range partners(l) {
		switch {
		case l[at].Kind == api.EvInv:
			made[l[at].Proc]++
			calls[at] = call{l[at].Proc, made[l[at].Proc]}
		case partner != alone:
			calls[at] = calls[partner]
		}
	}
	return calls
}

// keepsOrder tells what Keeps does of histories that are alike. What precedes an invocation in a are the first so many of a's responses: so it is enough to know, all along b, how many of a's first ones have come.
func keepsOrder(a, b []api.Event) bool {
	before, rank := ranks(a)
	come := make([]bool, len(rank))
	front := 0
	for at, c := range callsOf(b) {
		switch {
		case c == call{}:
			continue
		case b[at].Kind == api.EvInv:
			if front < before[c] {
				return false
			}
		default:
			come[rank[c]] = true
			for front < len(come) && come[front] {
				front++
			}
		}
	}
	return true
}

// ranks answers how many responses of calls stand ahead of each call's invocation, and ahead of its response.
func ranks(l []api.Event) (before, rank map[call]int) {
	before, rank = map[call]int{}, map[call]int{}
	responses := 0
	for at, c := range callsOf(l) {
		switch {
		case c == call{}:
			continue
		case l[at].Kind == api.EvInv:
			before[c] = responses
		default:
			rank[c] = responses
			responses++
		}
	}
	return before, rank
}
