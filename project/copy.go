package project

import (
	"slices"

	"sextant/api"
)

// No value within the document's bound has more parts, or more of them within one another. A list may be an item of itself, though: then nothing but these ends the way down.
const (
	mostParts  = 1 << 24
	mostLevels = 1 << 16
)

// copied answers events in memory of their own.
func copied(l []api.Event) []api.Event {
	l = slices.Clone(l)
	for i, ev := range l {
		l[i] = copiedEvent(ev)
	}
	return l
}

// copiedEvent answers an event as it is, but for its value's memory.
func copiedEvent(ev api.Event) api.Event {
	room := mostParts
	ev.Value = copiedWithin(ev.Value, mostLevels, &room)
	return ev
}

// copiedWithin answers a value, right or not, in memory of its own, without what is below so many levels or above the room of parts.
func copiedWithin(v api.Value, levels int, room *int) api.Value {
	if levels == 0 || len(v.Items) > *room {
		v.Items = nil
		return v
	}
	*room -= len(v.Items)
	v.Items = slices.Clone(v.Items)
	for i, item := range v.Items {
		v.Items[i] = copiedWithin(item, levels-1, room)
	}
	return v
}
