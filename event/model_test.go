package event_test

import (
	"encoding/binary"
	"iter"
	"math"
	"math/rand"
	"regexp"
	"slices"
	"strings"
	"unicode/utf8"

	"sextant/api"
	"sextant/value"
)

// What the chapter says, told once more in another way, to hold the package against. Values are layer 4's, with tests of their own.

func integer(n int64) api.Value      { return api.Value{Kind: api.KInt, Int: n} }
func truth(n int64) api.Value        { return api.Value{Kind: api.KBool, Int: n} }
func gauss(re, im int64) api.Value   { return api.Value{Kind: api.KGauss, Int: re, Im: im} }
func symbol(s string) api.Value      { return api.Value{Kind: api.KSym, Text: s} }
func tuple(l ...api.Value) api.Value { return api.Value{Kind: api.KTuple, Items: l} }
func list(l ...api.Value) api.Value  { return api.Value{Kind: api.KList, Items: l} }
func set(l ...api.Value) api.Value   { return api.Value{Kind: api.KSet, Items: l} }

func inv(proc, object, op string, v api.Value) api.Event {
	return api.Event{Kind: api.EvInv, Proc: proc, Object: object, Op: op, Value: v}
}

func res(proc string, v api.Value) api.Event {
	return api.Event{Kind: api.EvRes, Proc: proc, Value: v}
}

// sameValue holds values against each other field by field.
func sameValue(a, b api.Value) bool {
	return a.Kind == b.Kind && a.Int == b.Int && a.Im == b.Im && a.Text == b.Text && slices.EqualFunc(a.Items, b.Items, sameValue)
}

// equal holds events against each other field by field, spots and all.
func equal(a, b []api.Event) bool {
	return slices.EqualFunc(a, b, func(x, y api.Event) bool {
		return x.Kind == y.Kind && x.Proc == y.Proc && x.Object == y.Object && x.Op == y.Op && x.At == y.At && sameValue(x.Value, y.Value)
	})
}

func copyValue(v api.Value) api.Value {
	v.Items = slices.Clone(v.Items)
	for i := range v.Items {
		v.Items[i] = copyValue(v.Items[i])
	}
	return v
}

// deepCopy keeps events as they were, to see whether a call has changed them.
func deepCopy(l []api.Event) []api.Event {
	l = slices.Clone(l)
	for i := range l {
		l[i].Value = copyValue(l[i].Value)
	}
	return l
}

// spoil overwrites all that events hold.
func spoil(l []api.Event) {
	var down func(v *api.Value)
	down = func(v *api.Value) {
		for i := range v.Items {
			down(&v.Items[i])
		}
		v.Kind, v.Int, v.Im, v.Text = 99, 99, 99, "spoilt"
	}
	for i := range l {
		down(&l[i].Value)
		l[i].Kind, l[i].Proc, l[i].Object, l[i].Op, l[i].At = 99, "spoilt", "spoilt", "spoilt", api.Spot{Off: -1}
	}
}

// unplaced answers events with zero spots.
func unplaced(l []api.Event) []api.Event {
	l = slices.Clone(l)
	for i := range l {
		l[i].At = api.Spot{}
	}
	return l
}

const letterForm = `a-zA-Z_\x{C0}-\x{D6}\x{D8}-\x{F6}\x{F8}-\x{24F}\x{391}-\x{3A1}\x{3A3}-\x{3C9}`

var (
	nameForm  = regexp.MustCompile(`^[` + letterForm + `][` + letterForm + `0-9']{0,31}$`)
	truthForm = regexp.MustCompile(`^(true|false)$`)
	wordForm  = regexp.MustCompile(`[^ \t\r]+`)
	saidForm  = regexp.MustCompile(`^(?s:(.*?))[ \t\r]*$`)
)

// modelSpot counts lines and runes ahead of a place.
func modelSpot(s string, off int) api.Spot {
	line := strings.LastIndexByte(s[:off], '\n') + 1
	return api.Spot{Off: off, Line: 1 + strings.Count(s[:off], "\n"), Col: 1 + utf8.RuneCountInString(s[line:off])}
}

// modelParse reads a text by the places of its words.
func modelParse(s string) ([]api.Event, api.Fault) {
	var l []api.Event
	start := 0
	for _, raw := range strings.SplitAfter(s, "\n") {
		said, _, _ := strings.Cut(strings.TrimSuffix(raw, "\n"), "#")
		ev, code, off := modelLine(said)
		if code != api.OK {
			return nil, api.Fault{Code: code, At: modelSpot(s, start+off)}
		}
		if ev.Kind != 0 {
			ev.At = modelSpot(s, start+off)
			l = append(l, ev)
		}
		start += len(raw)
	}
	return l, api.Fault{}
}

// modelLine reads what a line says: an event (of kind 0 if there is none) and its place, or an error and its place.
func modelLine(said string) (api.Event, api.Errno, int) {
	places := wordForm.FindAllStringIndex(said, -1)
	if places == nil {
		return api.Event{}, api.OK, 0
	}
	var words []string
	for _, p := range places {
		words = append(words, said[p[0]:p[1]])
	}
	names := map[string]int{"inv": 3, "res": 1}[words[0]]
	if names == 0 {
		return api.Event{}, api.ErrEvent, places[0][0]
	}
	for i := 1; i <= names; i++ {
		if i >= len(words) {
			return api.Event{}, api.ErrEvent, len(said)
		}
		if !nameForm.MatchString(words[i]) || i != 2 && truthForm.MatchString(words[i]) {
			return api.Event{}, api.ErrWord, places[i][0]
		}
	}
	behind := places[names][1]
	argument := saidForm.FindStringSubmatch(said[behind:])[1]
	v, f := value.Parse(argument)
	if f.Code != api.OK {
		off := behind + f.At.Off
		if f.At.Off == len(argument) {
			off = len(said)
		}
		return api.Event{}, f.Code, off
	}
	if names == 1 {
		return res(words[1], v), api.OK, places[0][0]
	}
	return inv(words[1], words[2], words[3], v), api.OK, places[0][0]
}

// modelText writes right events.
func modelText(l []api.Event) string {
	s := ""
	for _, ev := range l {
		v, _ := value.Print(ev.Value)
		if ev.Kind == api.EvInv {
			s += "inv " + ev.Proc + " " + ev.Object + " " + ev.Op + " " + v + "\n"
		} else {
			s += "res " + ev.Proc + " " + v + "\n"
		}
	}
	return s
}

// modelBytes lays right events down.
func modelBytes(l []api.Event) []byte {
	b := binary.AppendUvarint(nil, uint64(len(l)))
	name := func(s string) { b = append(binary.AppendUvarint(b, uint64(len(s))), s...) }
	for _, ev := range l {
		b = append(b, byte(ev.Kind))
		name(ev.Proc)
		if ev.Kind == api.EvInv {
			name(ev.Object)
			name(ev.Op)
		}
		v, _ := value.Encode(ev.Value)
		b = append(b, v...)
	}
	return b
}

// everyText goes through all texts of up to so many pieces.
func everyText(most int, pieces ...string) iter.Seq[string] {
	return func(yield func(string) bool) {
		var down func(string, int) bool
		down = func(s string, left int) bool {
			if !yield(s) {
				return false
			}
			for _, p := range pieces {
				if left > 0 && !down(s+p, left-1) {
					return false
				}
			}
			return true
		}
		down("", most)
	}
}

// names are such as processes, objects and operations may have, at the edges of what a name is and about them.
func names() []string {
	return []string{"p", "q", "p1", "_", "x'", "λ1", "ÿ", "inv", "res", "i", "True", "true'", "fals", strings.Repeat("x", 32), strings.Repeat("ω", 32)}
}

// small are right values of all kinds, of a few parts each.
func small() []api.Value {
	return []api.Value{
		truth(0), truth(1), integer(0), integer(3), integer(-1), integer(math.MaxInt64), integer(math.MinInt64),
		gauss(0, 0), gauss(3, -4), gauss(-(1 << 20), 1<<20), symbol("a"), symbol("inv"), symbol(strings.Repeat("ω", 32)),
		tuple(), list(), set(), tuple(integer(1)), tuple(integer(1), truth(0)), list(symbol("λ'"), tuple()), set(integer(1), integer(3)),
		list(set(tuple(list(gauss(1, 1))), tuple(set()))),
	}
}

// values are right values up to the limits of layer 4.
func values() []api.Value { return append(small(), nested(16), wide(4096)) }

// nested answers lists within one another, so many levels.
func nested(levels int) api.Value {
	v := list()
	for range levels - 1 {
		v = list(v)
	}
	return v
}

// wide answers a list of so many parts.
func wide(parts int) api.Value {
	v := list()
	for i := range parts - 1 {
		v.Items = append(v.Items, integer(int64(i)))
	}
	return v
}

// single are right events, each name and each value in each place.
func single() []api.Event {
	l := []api.Event{inv("p", "true", "enq", integer(3)), inv("p", "false", "enq", integer(3))}
	for _, s := range names() {
		l = append(l, res(s, integer(3)), inv(s, "q", "enq", integer(3)), inv("p", s, "enq", integer(3)), inv("p", "q", s, integer(3)))
	}
	for _, v := range values() {
		l = append(l, res("p", v), inv("p", "q", "enq", v))
	}
	return l
}

// chance makes a row of right events.
func chance(r *rand.Rand, most int) []api.Event {
	n, v := names(), small()
	name := func() string { return n[r.Intn(len(n))] }
	var l []api.Event
	for range r.Intn(most + 1) {
		if r.Intn(2) == 0 {
			l = append(l, res(name(), v[r.Intn(len(v))]))
		} else {
			l = append(l, inv(name(), name(), name(), v[r.Intn(len(v))]))
		}
	}
	return l
}

// samples are rows of right events: none, one, many.
func samples() [][]api.Event {
	l := [][]api.Event{nil, {}, single()}
	for _, ev := range single() {
		l = append(l, []api.Event{ev})
	}
	r := rand.New(rand.NewSource(6))
	for range 500 {
		l = append(l, chance(r, 6))
	}
	return append(l, chance(r, 400))
}

// wrongValues are values that are not right, each with why.
func wrongValues() map[string]api.Value {
	loop := make([]api.Value, 1)
	loop[0] = list(loop...)
	return map[string]api.Value{
		"no value":             {},
		"a truth 2":            truth(2),
		"a symbol true":        symbol("true"),
		"a number with a text": {Kind: api.KInt, Text: "1"},
		"a set that falls":     set(integer(2), integer(1)),
		"a wrong value within": list(tuple(gauss(1<<20+1, 0))),
		"17 levels":            nested(17),
		"4097 parts":           wide(4097),
		"a list within itself": list(loop...),
		"kind 8":               {Kind: 8},
	}
}

// wrong answers events that are not right, each with why.
func wrong() map[string]api.Event {
	m := map[string]api.Event{
		"no event":              {},
		"kind 0":                {Proc: "p", Value: integer(1)},
		"kind -1":               {Kind: -1, Proc: "p", Value: integer(1)},
		"kind 3":                {Kind: 3, Proc: "p", Value: integer(1)},
		"kind 3 with names":     {Kind: 3, Proc: "p", Object: "q", Op: "enq", Value: integer(1)},
		"kind 257":              {Kind: 257, Proc: "p", Object: "q", Op: "enq", Value: integer(1)},
		"kind 258":              {Kind: 258, Proc: "p", Value: integer(1)},
		"an object beside":      {Kind: api.EvRes, Proc: "p", Object: "q", Value: integer(1)},
		"an operation beside":   {Kind: api.EvRes, Proc: "p", Op: "enq", Value: integer(1)},
		"a response with names": {Kind: api.EvRes, Proc: "p", Object: "q", Op: "enq", Value: integer(1)},
	}
	for why, s := range map[string]string{
		"no name": "", "true": "true", "false": "false", "a digit ahead": "1q", "a blank": "a b", "a blank ahead": " a", "a line's end": "a\n",
		"a #": "a#b", "a broken byte": "a\xff", "33 runes": strings.Repeat("ω", 33), "a times sign": "×", "a value": "(1,)", "a dash": "a-b",
	} {
		m["the process: "+why] = inv(s, "q", "enq", integer(1))
		m["the process that gets: "+why] = res(s, integer(1))
		m["the operation: "+why] = inv("p", "q", s, integer(1))
		if s != "true" && s != "false" {
			m["the object: "+why] = inv("p", s, "enq", integer(1))
		}
	}
	for why, v := range wrongValues() {
		m["the argument: "+why] = inv("p", "q", "enq", v)
		m["the answer: "+why] = res("p", v)
	}
	return m
}
