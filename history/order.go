package history

import (
	"sextant/api"
	"sextant/bits"
)

// Before tells whether one operation precedes another.
func Before(p api.Past, a int, b int) bool {
	return isCall(p, a) && isCall(p, b) && p.Calls[a].Res >= 0 && p.Calls[a].Res < p.Calls[b].Inv
}

func isCall(p api.Past, i int) bool { return 0 <= i && i < len(p.Calls) }

// Preds answers what precedes each operation.
func Preds(p api.Past) ([][]uint64, api.Errno) {
	events, e := told(p)
	if e != api.OK {
		return nil, e
	}
	ended := endings(p, len(events))
	// What Check lets pass has no more operations than a set has room for.
	done, _ := bits.New(len(p.Calls))
	var preds [][]uint64
	for at, ev := range events {
		if ev.Kind == api.EvInv {
			preds = append(preds, done.Words())
		} else {
			done.Put(ended[at])
		}
	}
	return preds, api.OK
}

// endings answers of each place where a response stands the operation that has it.
func endings(p api.Past, places int) []int {
	ended := make([]int, places)
	for i, c := range p.Calls {
		if c.Res != pending {
			ended[c.Res] = i
		}
	}
	return ended
}

// Open answers what is open at a place.
func Open(p api.Past, at int) ([]int, api.Errno) {
	if at < 0 || at > places(p) || Check(p) != api.OK {
		return nil, api.ErrArg
	}
	var open []int
	for i, c := range p.Calls {
		if c.Inv < at && (c.Res == pending || c.Res >= at) {
			open = append(open, i)
		}
	}
	return open, api.OK
}

// Widest answers how many operations are open at most.
func Widest(p api.Past) (int, api.Errno) {
	events, e := told(p)
	open, widest := 0, 0
	for _, ev := range events {
		if ev.Kind == api.EvInv {
			open++
		} else {
			open--
		}
		widest = max(widest, open)
	}
	return widest, e
}
