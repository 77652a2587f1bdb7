package history

import (
	"slices"

	"sextant/api"
)

// Check tells whether there are events of these operations.
func Check(p api.Past) api.Errno {
	_, e := told(p)
	return e
}

// Events answers them.
func Events(p api.Past) ([]api.Event, api.Errno) {
	events, e := told(p)
	for i, ev := range events {
		events[i].Value = copied(ev.Value)
	}
	return events, e
}

// told answers what Events does, but the values' items are those of p.
func told(p api.Past) ([]api.Event, api.Errno) {
	events, ok := laid(p)
	if !ok {
		return nil, api.ErrArg
	}
	if again, _, e := operations(events); e != api.OK || !agree(p, again) {
		return nil, api.ErrArg
	}
	return events, api.OK
}

// laid answers what operations tell, each event at the place that they say; it is false if that is none. (Where two say the same place, another is left free: there stands no right event.)
func laid(p api.Past) ([]api.Event, bool) {
	events := make([]api.Event, places(p))
	for _, c := range p.Calls {
		if !numbers(c.Proc, p.Procs) || !numbers(c.Object, p.Objects) {
			return nil, false
		}
		proc := p.Procs[c.Proc]
		if !lay(events, c.Inv, api.Event{Kind: api.EvInv, Proc: proc, Object: p.Objects[c.Object], Op: c.Op, Value: c.Arg}) {
			return nil, false
		}
		// One that is pending and has a reply all the same comes to grief at its place.
		if c.Res == pending && zero(c.Reply) {
			continue
		}
		if !lay(events, c.Res, api.Event{Kind: api.EvRes, Proc: proc, Value: c.Reply}) {
			return nil, false
		}
	}
	return events, true
}

// places tells how many events operations have.
func places(p api.Past) int {
	n := len(p.Calls)
	for _, c := range p.Calls {
		if c.Res != pending {
			n++
		}
	}
	return n
}

func numbers(i int, names []string) bool { return 0 <= i && i < len(names) }

func lay(events []api.Event, at int, ev api.Event) bool {
	if at < 0 || at >= len(events) {
		return false
	}
	events[at] = ev
	return true
}

func zero(v api.Value) bool {
	return v.Kind == 0 && v.Int == 0 && v.Im == 0 && v.Text == "" && len(v.Items) == 0
}

// agree holds p against what was made of its own events: where names and places are the same, all that stands there is, too.
func agree(p, again api.Past) bool {
	return slices.Equal(p.Procs, again.Procs) && slices.Equal(p.Objects, again.Objects) && slices.EqualFunc(p.Calls, again.Calls, samePlaces)
}

func samePlaces(a, b api.Call) bool { return a.Inv == b.Inv && a.Res == b.Res }

// Proc answers the number of a process.
func Proc(p api.Past, name string) int { return slices.Index(p.Procs, name) }

// Object answers the number of an object.
func Object(p api.Past, name string) int { return slices.Index(p.Objects, name) }
