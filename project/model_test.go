package project_test

import (
	"iter"
	"math/bits"
	"math/rand"
	"slices"
	"strings"

	"sextant/api"
	"sextant/value"
)

// What the chapter says, told once more in another way, to hold the package against. Values are layer 4's, with tests of their own.

func integer(n int64) api.Value      { return api.Value{Kind: api.KInt, Int: n} }
func truth(n int64) api.Value        { return api.Value{Kind: api.KBool, Int: n} }
func symbol(s string) api.Value      { return api.Value{Kind: api.KSym, Text: s} }
func tuple(l ...api.Value) api.Value { return api.Value{Kind: api.KTuple, Items: l} }
func list(l ...api.Value) api.Value  { return api.Value{Kind: api.KList, Items: l} }
func set(l ...api.Value) api.Value   { return api.Value{Kind: api.KSet, Items: l} }

func inv(proc, object, op string, v api.Value) api.Event {
	return api.Event{Kind: api.EvInv, Proc: proc, Object: object, Op: op, Value: v}
}

func res(proc string, v api.Value) api.Event {
	return api.Event{Kind: api.EvRes, Proc: proc, Value: v}
}

// call, reply and odd are events of which little but the process matters; an odd one is neither an invocation nor a response.
func call(proc string) api.Event  { return inv(proc, "x", "a", integer(1)) }
func reply(proc string) api.Event { return res(proc, integer(2)) }
func odd(proc string) api.Event {
	return api.Event{Kind: 3, Proc: proc, Object: "x", Op: "a", Value: integer(1)}
}

// sameValue holds values against each other field by field.
func sameValue(a, b api.Value) bool {
	return a.Kind == b.Kind && a.Int == b.Int && a.Im == b.Im && a.Text == b.Text && slices.EqualFunc(a.Items, b.Items, sameValue)
}

// sameEvent holds events against each other field by field, spots and all.
func sameEvent(a, b api.Event) bool {
	return a.Kind == b.Kind && a.Proc == b.Proc && a.Object == b.Object && a.Op == b.Op && a.At == b.At && sameValue(a.Value, b.Value)
}

func sameEvents(a, b []api.Event) bool { return slices.EqualFunc(a, b, sameEvent) }

func copyValue(v api.Value) api.Value {
	v.Items = slices.Clone(v.Items)
	for i := range v.Items {
		v.Items[i] = copyValue(v.Items[i])
	}
	return v
}

// copyEvents keeps events as they were, to see whether a call has changed them.
func copyEvents(l []api.Event) []api.Event {
	l = slices.Clone(l)
	for i := range l {
		l[i].Value = copyValue(l[i].Value)
	}
	return l
}

// spoilValue overwrites all that a value holds.
func spoilValue(v *api.Value) {
	for i := range v.Items {
		spoilValue(&v.Items[i])
	}
	v.Kind, v.Int, v.Im, v.Text = 99, 99, 99, "spoilt"
}

// spoilEvents overwrites all that events hold.
func spoilEvents(l []api.Event) {
	for i := range l {
		spoilValue(&l[i].Value)
		l[i].Kind, l[i].Proc, l[i].Object, l[i].Op, l[i].At = 99, "spoilt", "spoilt", "spoilt", api.Spot{Off: -1}
	}
}

// placed gives each event a spot of its own, so that it can be told from those that are like it.
func placed(l []api.Event) []api.Event {
	l = slices.Clone(l)
	for i := range l {
		l[i].At = api.Spot{Off: 7 * i, Line: i + 1, Col: i % 3}
	}
	return l
}

// modelCall answers the place of a response's call, or -1: it looks at each invocation ahead, whether it is the last one and no response stands between.
func modelCall(l []api.Event, at int) int {
	if l[at].Kind != api.EvRes {
		return -1
	}
	last := -1
	for i := range at {
		if l[i].Kind == api.EvInv && l[i].Proc == l[at].Proc {
			last = i
		}
	}
	if last < 0 {
		return -1
	}
	for _, ev := range l[last+1 : at] {
		if ev.Kind == api.EvRes && ev.Proc == l[at].Proc {
			return -1
		}
	}
	return last
}

// modelResponse answers the place of the response whose call stands there, or -1.
func modelResponse(l []api.Event, at int) int {
	for i := range l {
		if modelCall(l, i) == at {
			return i
		}
	}
	return -1
}

// modelRows are Objects and Procs.
func modelRows(l []api.Event) (objects, procs []string) {
	for _, ev := range l {
		if ev.Kind == api.EvInv && !slices.Contains(objects, ev.Object) {
			objects = append(objects, ev.Object)
		}
		if !slices.Contains(procs, ev.Proc) {
			procs = append(procs, ev.Proc)
		}
	}
	return objects, procs
}

func modelObject(l []api.Event, name string) []api.Event {
	var part []api.Event
	for at, ev := range l {
		of := modelCall(l, at)
		if ev.Kind == api.EvInv && ev.Object == name || of >= 0 && l[of].Object == name {
			part = append(part, ev)
		}
	}
	return part
}

func modelProc(l []api.Event, name string) []api.Event {
	return slices.DeleteFunc(slices.Clone(l), func(ev api.Event) bool { return ev.Proc != name })
}

func modelWhole(l []api.Event) []api.Event {
	var part []api.Event
	for at, ev := range l {
		pending := ev.Kind == api.EvInv && modelResponse(l, at) < 0
		stray := ev.Kind == api.EvRes && modelCall(l, at) < 0
		if !pending && !stray {
			part = append(part, ev)
		}
	}
	return part
}

func modelAnswered(l, replies []api.Event) ([]api.Event, api.Errno) {
	for i, r := range replies {
		fits := false
		for at, ev := range l {
			behind := slices.ContainsFunc(l[at+1:], func(o api.Event) bool { return o.Proc == r.Proc })
			fits = fits || ev.Kind == api.EvInv && ev.Proc == r.Proc && modelResponse(l, at) < 0 && !behind
		}
		again := slices.ContainsFunc(replies[:i], func(o api.Event) bool { return o.Proc == r.Proc })
		if r.Kind != api.EvRes || !fits || again || value.Check(r.Value) != api.OK {
			return nil, api.ErrPart
		}
	}
	return slices.Concat(l, replies), api.OK
}

func modelSame(a, b []api.Event) bool {
	return slices.EqualFunc(a, b, func(x, y api.Event) bool {
		return x.Kind == y.Kind && x.Proc == y.Proc && x.Object == y.Object && x.Op == y.Op &&
			value.Check(x.Value) == api.OK && value.Check(y.Value) == api.OK && sameValue(x.Value, y.Value)
	})
}

func modelAlike(a, b []api.Event) bool {
	_, p := modelRows(a)
	_, q := modelRows(b)
	for _, name := range append(p, q...) {
		if !modelSame(modelProc(a, name), modelProc(b, name)) {
			return false
		}
	}
	return true
}

// modelKth answers the place in b of the invocation that stands at a place in a: as many of its process are ahead of it.
func modelKth(a []api.Event, at int, b []api.Event) int {
	k := 0
	for _, ev := range a[:at] {
		if ev.Kind == api.EvInv && ev.Proc == a[at].Proc {
			k++
		}
	}
	for i, ev := range b {
		if ev.Kind == api.EvInv && ev.Proc == a[at].Proc {
			if k == 0 {
				return i
			}
			k--
		}
	}
	return -1
}

// modelKeeps looks at each two invocations.
func modelKeeps(a, b []api.Event) bool {
	if !modelAlike(a, b) {
		return false
	}
	for i, x := range a {
		for j, y := range a {
			if x.Kind != api.EvInv || y.Kind != api.EvInv || i == j {
				continue
			}
			end := modelResponse(a, i)
			if end >= 0 && end < j && modelResponse(b, modelKth(a, i, b)) > modelKth(a, j, b) {
				return false
			}
		}
	}
	return true
}

// modelMerges makes a row of each number whose ones tell where an event of b stands, the highest one first; the least numbers take from a first.
func modelMerges(a, b []api.Event) [][]api.Event {
	n := len(a) + len(b)
	var rows [][]api.Event
	for word := range uint(1) << n {
		if bits.OnesCount(word) != len(b) {
			continue
		}
		row, i, j := []api.Event{}, 0, 0
		for at := n - 1; at >= 0; at-- {
			if word>>at&1 == 1 {
				row = append(row, b[j])
				j++
			} else {
				row = append(row, a[i])
				i++
			}
		}
		rows = append(rows, row)
	}
	return rows
}

// rowsOf goes through all rows of up to so many of these events, be they histories or not; each event has a spot of its own.
func rowsOf(most int, pieces ...api.Event) iter.Seq[[]api.Event] {
	return func(yield func([]api.Event) bool) {
		var down func([]api.Event) bool
		down = func(l []api.Event) bool {
			if !yield(placed(l)) {
				return false
			}
			if len(l) == most {
				return true
			}
			for _, ev := range pieces {
				if !down(append(slices.Clip(l), ev)) {
					return false
				}
			}
			return true
		}
		down(nil)
	}
}

// pieces are events of two processes on two objects, and one that is of no kind.
func pieces() []api.Event {
	return []api.Event{call("p"), inv("p", "y", "b", list()), reply("p"), call("q"), reply("q"), odd("p")}
}

// chance makes a row of any events: some are at odds with those ahead of them, some are not right.
func chance(r *rand.Rand, most int) []api.Event {
	names, values := someNames(), someValues()
	if r.Intn(2) == 0 {
		values = values[:5] // right ones alone
	}
	names = names[:1+r.Intn(len(names))]
	var l []api.Event
	for range r.Intn(most + 1) {
		ev := api.Event{Kind: api.EventKind(1 + r.Intn(2)), Proc: names[r.Intn(len(names))], Value: copyValue(values[r.Intn(len(values))])}
		if r.Intn(12) == 0 {
			ev.Kind = []api.EventKind{0, -1, 3, 257}[r.Intn(4)]
		}
		if ev.Kind != api.EvRes || r.Intn(8) == 0 {
			ev.Object, ev.Op = names[r.Intn(len(names))], names[r.Intn(len(names))]
		}
		l = append(l, ev)
	}
	return placed(l)
}

// wellFormed makes a history of right events, of so many processes on two objects.
func wellFormed(r *rand.Rand, procs, most int) []api.Event {
	busy := map[string]bool{}
	var l []api.Event
	for range r.Intn(most + 1) {
		proc := string(rune('p' + r.Intn(procs)))
		ev := res(proc, copyValue(someValues()[r.Intn(5)]))
		if !busy[proc] {
			ev = inv(proc, []string{"x", "y"}[r.Intn(2)], "a", copyValue(someValues()[r.Intn(5)]))
		}
		busy[proc] = !busy[proc]
		l = append(l, ev)
	}
	return placed(l)
}

// shuffled answers a row that is alike: events of two processes that stand side by side change places.
func shuffled(r *rand.Rand, l []api.Event, times int) []api.Event {
	l = copyEvents(l)
	for range times {
		if len(l) < 2 {
			break
		}
		if i := r.Intn(len(l) - 1); l[i].Proc != l[i+1].Proc {
			l[i], l[i+1] = l[i+1], l[i]
		}
	}
	return l
}

// someNames are names, and words that are none.
func someNames() []string { return []string{"p", "", "q", "true", "λ1", "x y\n", "\xff"} }

// someValues are five that are right, and some that are not.
func someValues() []api.Value {
	return []api.Value{
		integer(1), truth(0), tuple(), set(integer(1), integer(3)), list(set(tuple(list(symbol("a"))), tuple(set()))),
		{}, truth(2), set(integer(2), integer(1)), {Kind: 9, Int: 1, Im: 2, Text: "a b", Items: []api.Value{integer(1), {Items: []api.Value{{}}}}}, nested(17),
	}
}

// nested answers lists within one another, so many levels.
func nested(levels int) api.Value {
	v := list()
	for range levels - 1 {
		v = list(v)
	}
	return v
}

// wide answers a list of so many parts.
func wide(parts int) api.Value {
	v := list()
	for i := range parts - 1 {
		v.Items = append(v.Items, integer(int64(i)))
	}
	return v
}

// looped is a list whose one item it is itself.
func looped() api.Value {
	loop := make([]api.Value, 1)
	loop[0] = list(loop...)
	return loop[0]
}

// told tells events in a short text: i, r or o, and the process.
func told(l []api.Event) string {
	var words []string
	for _, ev := range l {
		word := "o"
		if ev.Kind == api.EvInv {
			word = "i"
		} else if ev.Kind == api.EvRes {
			word = "r"
		}
		words = append(words, word+ev.Proc)
	}
	return strings.Join(words, " ")
}
