package history_test

import (
	"iter"
	"math/rand"
	"regexp"
	"slices"
	"strings"

	"sextant/api"
	"sextant/value"
)

// What the chapter says, told once more in another way, to hold the package against. Values are layer 4's, with tests of their own.

func integer(n int64) api.Value      { return api.Value{Kind: api.KInt, Int: n} }
func truth(n int64) api.Value        { return api.Value{Kind: api.KBool, Int: n} }
func gauss(re, im int64) api.Value   { return api.Value{Kind: api.KGauss, Int: re, Im: im} }
func symbol(s string) api.Value      { return api.Value{Kind: api.KSym, Text: s} }
func tuple(l ...api.Value) api.Value { return api.Value{Kind: api.KTuple, Items: l} }
func list(l ...api.Value) api.Value  { return api.Value{Kind: api.KList, Items: l} }
func set(l ...api.Value) api.Value   { return api.Value{Kind: api.KSet, Items: l} }

func inv(proc, object, op string, v api.Value) api.Event {
	return api.Event{Kind: api.EvInv, Proc: proc, Object: object, Op: op, Value: v}
}

func res(proc string, v api.Value) api.Event {
	return api.Event{Kind: api.EvRes, Proc: proc, Value: v}
}

// sameValue holds values against each other field by field.
func sameValue(a, b api.Value) bool {
	return a.Kind == b.Kind && a.Int == b.Int && a.Im == b.Im && a.Text == b.Text && slices.EqualFunc(a.Items, b.Items, sameValue)
}

// sameEvents holds events against each other field by field, spots and all.
func sameEvents(a, b []api.Event) bool {
	return slices.EqualFunc(a, b, func(x, y api.Event) bool {
		return x.Kind == y.Kind && x.Proc == y.Proc && x.Object == y.Object && x.Op == y.Op && x.At == y.At && sameValue(x.Value, y.Value)
	})
}

// samePast holds pasts against each other field by field.
func samePast(a, b api.Past) bool {
	return slices.Equal(a.Procs, b.Procs) && slices.Equal(a.Objects, b.Objects) && slices.EqualFunc(a.Calls, b.Calls, func(x, y api.Call) bool {
		return x.Proc == y.Proc && x.Object == y.Object && x.Op == y.Op && x.Inv == y.Inv && x.Res == y.Res && sameValue(x.Arg, y.Arg) && sameValue(x.Reply, y.Reply)
	})
}

func empty(p api.Past) bool { return len(p.Procs)+len(p.Objects)+len(p.Calls) == 0 }

func copyValue(v api.Value) api.Value {
	v.Items = slices.Clone(v.Items)
	for i := range v.Items {
		v.Items[i] = copyValue(v.Items[i])
	}
	return v
}

// copyEvents keeps events as they were, to see whether a call has changed them.
func copyEvents(l []api.Event) []api.Event {
	l = slices.Clone(l)
	for i := range l {
		l[i].Value = copyValue(l[i].Value)
	}
	return l
}

// copyPast keeps a past as it was.
func copyPast(p api.Past) api.Past {
	q := api.Past{Procs: slices.Clone(p.Procs), Objects: slices.Clone(p.Objects), Calls: slices.Clone(p.Calls)}
	for i, c := range q.Calls {
		q.Calls[i].Arg, q.Calls[i].Reply = copyValue(c.Arg), copyValue(c.Reply)
	}
	return q
}

// spoilValue overwrites all that a value holds.
func spoilValue(v *api.Value) {
	for i := range v.Items {
		spoilValue(&v.Items[i])
	}
	v.Kind, v.Int, v.Im, v.Text = 99, 99, 99, "spoilt"
}

// spoilEvents overwrites all that events hold.
func spoilEvents(l []api.Event) {
	for i := range l {
		spoilValue(&l[i].Value)
		l[i].Kind, l[i].Proc, l[i].Object, l[i].Op, l[i].At = 99, "spoilt", "spoilt", "spoilt", api.Spot{Off: -1}
	}
}

// spoilPast overwrites all that a past holds.
func spoilPast(p api.Past) {
	for i := range p.Procs {
		p.Procs[i] = "spoilt"
	}
	for i := range p.Objects {
		p.Objects[i] = "spoilt"
	}
	for i := range p.Calls {
		c := &p.Calls[i]
		spoilValue(&c.Arg)
		spoilValue(&c.Reply)
		c.Proc, c.Object, c.Op, c.Inv, c.Res = 99, 99, "spoilt", 99, 99
	}
}

// unplaced answers events with zero spots.
func unplaced(l []api.Event) []api.Event {
	l = slices.Clone(l)
	for i := range l {
		l[i].At = api.Spot{}
	}
	return l
}

const letterForm = `a-zA-Z_\x{C0}-\x{D6}\x{D8}-\x{F6}\x{F8}-\x{24F}\x{391}-\x{3A1}\x{3A3}-\x{3C9}`

var (
	nameForm  = regexp.MustCompile(`^[` + letterForm + `][` + letterForm + `0-9']{0,31}$`)
	truthForm = regexp.MustCompile(`^(true|false)$`)
)

func modelPlain(s string) bool { return nameForm.MatchString(s) && !truthForm.MatchString(s) }

func modelRight(ev api.Event) bool {
	if value.Check(ev.Value) != api.OK || !modelPlain(ev.Proc) {
		return false
	}
	return ev.Kind == api.EvInv && nameForm.MatchString(ev.Object) && modelPlain(ev.Op) || ev.Kind == api.EvRes && ev.Object+ev.Op == ""
}

// modelMake looks at each event from all those ahead of it, and at each invocation from all those behind it.
func modelMake(l []api.Event) (api.Past, int, api.Errno) {
	for at, ev := range l {
		own := 0 // events of this process ahead: they take turns
		for _, other := range l[:at] {
			if other.Proc == ev.Proc {
				own++
			}
		}
		switch {
		case !modelRight(ev):
			return api.Past{}, at, api.ErrArg
		case ev.Kind == api.EvInv && own%2 == 1:
			return api.Past{}, at, api.ErrBusy
		case ev.Kind == api.EvRes && own%2 == 0:
			return api.Past{}, at, api.ErrIdle
		}
	}
	var p api.Past
	for at, ev := range l {
		p.Procs, p.Objects = modelFirst(p.Procs, ev.Proc), modelFirst(p.Objects, ev.Object)
		if ev.Kind == api.EvInv {
			p.Calls = append(p.Calls, modelCall(p, l, at))
		}
		if responses := at + 1 - len(p.Calls); len(p.Procs) > 64 || len(p.Calls) > 4096 || len(p.Calls)-responses > 10 {
			return api.Past{}, at, api.ErrLarge
		}
	}
	return p, 0, api.OK
}

// modelFirst puts a name behind the others, if it is a name and not among them.
func modelFirst(names []string, name string) []string {
	if name == "" || slices.Contains(names, name) {
		return names
	}
	return append(names, name)
}

// modelCall makes the operation of an invocation: its process' next event is the response.
func modelCall(p api.Past, l []api.Event, at int) api.Call {
	ev := l[at]
	c := api.Call{Proc: slices.Index(p.Procs, ev.Proc), Object: slices.Index(p.Objects, ev.Object), Op: ev.Op, Arg: ev.Value, Inv: at, Res: -1}
	for i, other := range l[at+1:] {
		if other.Proc == ev.Proc {
			c.Res, c.Reply = at+1+i, other.Value
			break
		}
	}
	return c
}

// written tells a past of small numbers in a text, but for what is alike in all small histories: operations, arguments and replies.
func written(p api.Past) string {
	b := []byte(strings.Join(p.Procs, " ") + "\n" + strings.Join(p.Objects, " ") + "\n")
	for _, c := range p.Calls {
		b = append(b, byte(c.Proc), byte(c.Object), byte(c.Inv), byte(c.Res))
	}
	return string(b)
}

// histories goes through all well formed rows of up to so many events, of these processes and objects.
func histories(most int, procs, objects string) iter.Seq[[]api.Event] {
	return func(yield func([]api.Event) bool) {
		var down func([]api.Event) bool
		down = func(l []api.Event) bool {
			if !yield(slices.Clone(l)) {
				return false
			}
			if len(l) == most {
				return true
			}
			for _, ev := range nexts(l, procs, objects) {
				if !down(append(slices.Clip(l), ev)) {
					return false
				}
			}
			return true
		}
		down(nil)
	}
}

// nexts answers what may come behind a well formed row.
func nexts(l []api.Event, procs, objects string) []api.Event {
	var next []api.Event
	for _, proc := range procs {
		busy := false
		for _, ev := range l {
			if ev.Proc == string(proc) {
				busy = !busy
			}
		}
		if busy {
			next = append(next, res(string(proc), integer(1)))
			continue
		}
		for _, object := range objects {
			next = append(next, inv(string(proc), string(object), "a", integer(1)))
		}
	}
	return next
}

// chance makes a well formed history of a few processes.
func chance(r *rand.Rand, procs, most int) []api.Event {
	names, objects, v := someNames(), append(someNames(), "true", "false"), small()
	busy := map[string]bool{}
	var l []api.Event
	for range r.Intn(most + 1) {
		proc := names[r.Intn(procs)]
		ev := res(proc, copyValue(v[r.Intn(len(v))]))
		if !busy[proc] {
			ev = inv(proc, objects[r.Intn(len(objects))], names[r.Intn(len(names))], copyValue(v[r.Intn(len(v))]))
		}
		ev.At = api.Spot{Off: r.Intn(9), Line: r.Intn(9), Col: r.Intn(9)}
		busy[proc] = !busy[proc]
		l = append(l, ev)
	}
	return l
}

// someNames are such as processes and operations may have.
func someNames() []string {
	return []string{"p", "q", "p1", "_", "x'", "λ1", "ÿ", "inv", "True", "true'", strings.Repeat("x", 32), strings.Repeat("ω", 32)}
}

// small are right values of all kinds, of a few parts each.
func small() []api.Value {
	return []api.Value{
		truth(0), truth(1), integer(0), integer(-3), gauss(3, -4), symbol("a"), tuple(), list(), set(), tuple(integer(1)),
		set(integer(1), integer(3)), list(set(tuple(list(gauss(1, 1))), tuple(set()))),
	}
}

// nested answers lists within one another, so many levels.
func nested(levels int) api.Value {
	v := list()
	for range levels - 1 {
		v = list(v)
	}
	return v
}

// wide answers a list of so many parts.
func wide(parts int) api.Value {
	v := list()
	for i := range parts - 1 {
		v.Items = append(v.Items, integer(int64(i)))
	}
	return v
}

// wrongValues are values that are not right, each with why.
func wrongValues() map[string]api.Value {
	loop := make([]api.Value, 1)
	loop[0] = list(loop...)
	return map[string]api.Value{
		"no value":             {},
		"a truth 2":            truth(2),
		"a symbol true":        symbol("true"),
		"a number with a text": {Kind: api.KInt, Text: "1"},
		"a set that falls":     set(integer(2), integer(1)),
		"a wrong value within": list(tuple(gauss(1<<20+1, 0))),
		"17 levels":            nested(17),
		"4097 parts":           wide(4097),
		"a list within itself": list(loop...),
		"kind 8":               {Kind: 8},
	}
}

// wrongNames are words that are no names of processes and operations, each with why; "true" and "false" name objects.
func wrongNames() map[string]string {
	return map[string]string{
		"no name": "", "true": "true", "false": "false", "a digit ahead": "1q", "a blank": "a b", "a blank ahead": " a", "a line's end": "a\n",
		"a #": "a#b", "a broken byte": "a\xff", "33 runes": strings.Repeat("ω", 33), "a times sign": "×", "a value": "(1,)", "a dash": "a-b",
	}
}

// wrongCalls are invocations of process p that are not right, each with why.
func wrongCalls() map[string]api.Event {
	m := map[string]api.Event{}
	for why, s := range wrongNames() {
		m["the process: "+why] = inv(s, "x", "a", integer(1))
		m["the operation: "+why] = inv("p", "x", s, integer(1))
		if s != "true" && s != "false" {
			m["the object: "+why] = inv("p", s, "a", integer(1))
		}
	}
	for why, v := range wrongValues() {
		m["the argument: "+why] = inv("p", "x", "a", v)
	}
	return m
}

// wrongEvents are all kinds of events that are not right, each with why.
func wrongEvents() map[string]api.Event {
	m := wrongCalls()
	for why, s := range wrongNames() {
		m["the process that gets: "+why] = res(s, integer(1))
	}
	for why, v := range wrongValues() {
		m["the reply: "+why] = res("p", v)
	}
	for why, ev := range map[string]api.Event{
		"no event":              {},
		"kind 0":                {Proc: "p", Value: integer(1)},
		"kind -1":               {Kind: -1, Proc: "p", Value: integer(1)},
		"kind 3":                {Kind: 3, Proc: "p", Value: integer(1)},
		"kind 3 with names":     {Kind: 3, Proc: "p", Object: "x", Op: "a", Value: integer(1)},
		"kind 257":              {Kind: 257, Proc: "p", Object: "x", Op: "a", Value: integer(1)},
		"kind 258":              {Kind: 258, Proc: "p", Value: integer(1)},
		"an object beside":      {Kind: api.EvRes, Proc: "p", Object: "x", Value: integer(1)},
		"an operation beside":   {Kind: api.EvRes, Proc: "p", Op: "a", Value: integer(1)},
		"a response with names": {Kind: api.EvRes, Proc: "p", Object: "x", Op: "a", Value: integer(1)},
	} {
		m[why] = ev
	}
	return m
}
