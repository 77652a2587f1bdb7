package history_test

import (
	"cmp"
	"math"
	"math/rand"
	"slices"
	"testing"

	"sextant/api"
	"sextant/history"
	"sextant/value"
)

// made answers the past of a right history.
func made(t *testing.T, l []api.Event) api.Past {
	t.Helper()
	p, at, e := history.Make(l)
	if e != api.OK {
		t.Fatalf("Make(%.300v): %d, %d", l, at, e)
	}
	return p
}

// modelCheck says what pasts of right histories have in common, without making their events.
func modelCheck(p api.Past) bool {
	var places []int
	last := map[int]api.Call{}
	procs, objects := 0, 0
	for i, c := range p.Calls {
		if i > 0 && c.Inv <= p.Calls[i-1].Inv || c.Proc > procs || c.Object > objects || c.Proc < 0 || c.Object < 0 {
			return false
		}
		procs, objects = max(procs, c.Proc+1), max(objects, c.Object+1)
		if ahead, ok := last[c.Proc]; ok && (ahead.Res == -1 || ahead.Res > c.Inv) {
			return false
		}
		last[c.Proc] = c
		if !modelPlain(c.Op) || value.Check(c.Arg) != api.OK {
			return false
		}
		places = append(places, c.Inv)
		if c.Res == -1 && sameValue(c.Reply, api.Value{}) {
			continue
		}
		if c.Res <= c.Inv || value.Check(c.Reply) != api.OK {
			return false
		}
		places = append(places, c.Res)
	}
	if procs != len(p.Procs) || objects != len(p.Objects) || procs > 64 || len(p.Calls) > 4096 {
		return false
	}
	slices.Sort(places)
	for i, at := range places {
		if at != i || len(modelOpen(p, at+1)) > 10 {
			return false
		}
	}
	return modelNames(p.Procs, modelPlain) && modelNames(p.Objects, nameForm.MatchString)
}

// modelNames tells whether all are names of that sort, none twice.
func modelNames(names []string, fits func(string) bool) bool {
	for i, name := range names {
		if !fits(name) || slices.Contains(names[:i], name) {
			return false
		}
	}
	return true
}

// holdCheck fails unless Check and Events answer what there is to answer.
func holdCheck(t *testing.T, p api.Past, right bool) {
	t.Helper()
	l, e := history.Events(p)
	if !right {
		if c := history.Check(p); c != api.ErrArg || e != api.ErrArg || len(l) != 0 {
			t.Fatalf("Check(%.600v) = %d, Events %.300v, %d, want ErrArg", p, c, l, e)
		}
		return
	}
	if c := history.Check(p); c != api.OK || e != api.OK || !sameEvents(l, unplaced(l)) {
		t.Fatalf("Check(%.600v) = %d, Events %.300v, %d, want OK", p, c, l, e)
	}
	if q, at, e := history.Make(l); !samePast(q, p) || at != 0 || e != api.OK {
		t.Fatalf("Make(Events(%.600v)) = %.600v, %d, %d", p, q, at, e)
	}
}

// P7.2

func TestCheckAndEvents(t *testing.T) {
	r := rand.New(rand.NewSource(75))
	for range 2000 {
		l := chance(r, 10, 30)
		p := made(t, l)
		holdCheck(t, p, true)
		if back, e := history.Events(p); !sameEvents(back, unplaced(l)) || e != api.OK {
			t.Fatalf("Events(Make(%v)) = %v, %d", l, back, e)
		}
	}
	holdCheck(t, api.Past{}, true)
	holdCheck(t, api.Past{Procs: []string{}, Objects: []string{}, Calls: []api.Call{}}, true)
	holdCheck(t, api.Past{Procs: []string{"p"}, Objects: []string{"x"}, Calls: []api.Call{{Op: "a", Arg: integer(1), Res: -1, Reply: api.Value{Items: []api.Value{}}}}}, true)
	for l := range histories(5, "pqr", "xy") {
		holdCheck(t, made(t, l), true)
	}
}

// TestCheckOfSmallPasts: of all pasts of up to two operations just those are right that small histories have.
func TestCheckOfSmallPasts(t *testing.T) {
	known := map[string]bool{}
	for l := range histories(4, "pq", "xy") {
		p, _, _ := modelMake(l)
		known[written(p)] = true
	}
	procs := [][]string{{}, {"p"}, {"q"}, {"p", "p"}, {"p", "q"}, {"q", "p"}}
	objects := [][]string{{}, {"x"}, {"x", "x"}, {"x", "y"}, {"y", "x"}}
	var some []api.Call
	for proc := -1; proc <= 1; proc++ {
		for object := range 2 {
			for at := -1; at <= 3; at++ {
				for end := -2; end <= 3; end++ {
					c := api.Call{Proc: proc, Object: object, Op: "a", Arg: integer(1), Inv: at, Res: end}
					if end != -1 {
						c.Reply = integer(1)
					}
					some = append(some, c)
				}
			}
		}
	}
	right := 0
	hold := func(p api.Past) {
		is := known[written(p)]
		// What is right is looked at closely, what is not only by its number: there is much of it.
		if is {
			right++
			holdCheck(t, p, true)
		} else if history.Check(p) != api.ErrArg {
			t.Fatalf("Check(%v): want ErrArg", p)
		}
	}
	for _, ps := range procs {
		for _, os := range objects {
			hold(api.Past{Procs: ps, Objects: os})
			for _, c := range some {
				hold(api.Past{Procs: ps, Objects: os, Calls: []api.Call{c}})
				if len(ps) == 0 || len(os) == 0 {
					continue
				}
				for _, d := range some {
					hold(api.Past{Procs: ps, Objects: os, Calls: []api.Call{c, d}})
				}
			}
		}
	}
	if right < 50 {
		t.Errorf("only %d pasts are right", right)
	}
}

func TestCheckLooksAtEachField(t *testing.T) {
	l := []api.Event{inv("p", "x", "a", integer(1)), inv("q", "y", "b", integer(2)), res("p", truth(1)), inv("p", "y", "c", tuple()), res("q", truth(0)), inv("r", "x", "a", list())}
	change := map[string]func(*api.Past){
		"a process too many":         func(p *api.Past) { p.Procs = append(p.Procs, "s") },
		"a process too few":          func(p *api.Past) { p.Procs = p.Procs[:2] },
		"processes in another order": func(p *api.Past) { p.Procs[0], p.Procs[1] = "q", "p"; swapProcs(p) },
		"a process twice":            func(p *api.Past) { p.Procs[2] = "p" },
		"no processes":               func(p *api.Past) { p.Procs = nil },
		"an object too many":         func(p *api.Past) { p.Objects = append(p.Objects, "z") },
		"an object too few":          func(p *api.Past) { p.Objects = p.Objects[:1] },
		"an object twice":            func(p *api.Past) { p.Objects[1] = "x" },
		"objects in another order":   func(p *api.Past) { p.Objects[0], p.Objects[1] = "y", "x"; swapObjects(p) },
		"no objects":                 func(p *api.Past) { p.Objects = nil },
		"no operations":              func(p *api.Past) { p.Calls = nil },
		"the last one missing":       func(p *api.Past) { p.Calls = p.Calls[:3] },
		"the first one missing":      func(p *api.Past) { p.Calls = p.Calls[1:] },
		"operations in disorder":     func(p *api.Past) { p.Calls[1], p.Calls[2] = p.Calls[2], p.Calls[1] },
		"one twice":                  func(p *api.Past) { p.Calls = append(p.Calls, p.Calls[3]) },
		"process -1":                 func(p *api.Past) { p.Calls[0].Proc = -1 },
		"process 3":                  func(p *api.Past) { p.Calls[3].Proc = 3 },
		"a process that is far off":  func(p *api.Past) { p.Calls[3].Proc = math.MaxInt },
		"object -1":                  func(p *api.Past) { p.Calls[0].Object = -1 },
		"object 2":                   func(p *api.Past) { p.Calls[3].Object = 2 },
		"an object that is far off":  func(p *api.Past) { p.Calls[3].Object = math.MinInt },
		"a place far behind":         func(p *api.Past) { p.Calls[3].Inv = math.MaxInt },
		"a place below 0":            func(p *api.Past) { p.Calls[0].Inv = math.MinInt },
		"a gap":                      func(p *api.Past) { p.Calls[3].Inv = 6 },
		"a response far behind":      func(p *api.Past) { p.Calls[1].Res = math.MaxInt },
		"a response at -2":           func(p *api.Past) { p.Calls[1].Res = -2 },
		"a response far below":       func(p *api.Past) { p.Calls[1].Res = math.MinInt },
		"a response ahead of it all": func(p *api.Past) { p.Calls[1].Inv, p.Calls[1].Res = 4, 1 },
		"two at one place":           func(p *api.Past) { p.Calls[1].Res = 2 },
		"no response, but a reply":   func(p *api.Past) { p.Calls[3].Reply = truth(1) },
		"a response, but no reply":   func(p *api.Past) { p.Calls[1].Reply = api.Value{} },
		"a number as a reply":        func(p *api.Past) { p.Calls[3].Reply = api.Value{Int: 1} },
		"an imaginary reply":         func(p *api.Past) { p.Calls[3].Reply = api.Value{Im: 1} },
		"a text as a reply":          func(p *api.Past) { p.Calls[3].Reply = api.Value{Text: "a"} },
		"items as a reply":           func(p *api.Past) { p.Calls[3].Reply = api.Value{Items: []api.Value{integer(1)}} },
		"a kind as a reply":          func(p *api.Past) { p.Calls[3].Reply = api.Value{Kind: api.KInt} },
	}
	for why, s := range wrongNames() {
		change["the process: "+why] = func(p *api.Past) { p.Procs[2] = s }
		change["the operation: "+why] = func(p *api.Past) { p.Calls[0].Op = s }
		if s != "true" && s != "false" {
			change["the object: "+why] = func(p *api.Past) { p.Objects[1] = s }
		}
	}
	for why, v := range wrongValues() {
		change["the argument: "+why] = func(p *api.Past) { p.Calls[2].Arg = v }
		change["the reply: "+why] = func(p *api.Past) { p.Calls[0].Reply = v }
		if why != "no value" {
			change["the reply of a pending one: "+why] = func(p *api.Past) { p.Calls[3].Reply = v }
		}
	}
	for why, do := range change {
		p := made(t, l)
		do(&p)
		if got, e := history.Events(p); history.Check(p) != api.ErrArg || len(got) != 0 || e != api.ErrArg {
			t.Errorf("Check, %s: %d, Events %d events, %d", why, history.Check(p), len(got), e)
		}
	}
	p := made(t, l)
	p.Objects[1], p.Calls[0].Op, p.Calls[0].Arg, p.Procs[2] = "true", "e", set(), "λ"
	holdCheck(t, p, true)
}

// swapProcs and swapObjects give each call the other number, so that it keeps its name where names were swapped.
func swapProcs(p *api.Past) {
	for i, c := range p.Calls {
		if c.Proc < 2 {
			p.Calls[i].Proc = 1 - c.Proc
		}
	}
}

func swapObjects(p *api.Past) {
	for i, c := range p.Calls {
		p.Calls[i].Object = 1 - c.Object
	}
}

// TestCheckOfResponsesExchanged: two operations of one process whose responses are told crosswise have events, but not of which Make answers them.
func TestCheckOfResponsesExchanged(t *testing.T) {
	p := made(t, []api.Event{call("p"), reply("p"), call("p"), reply("p")})
	p.Calls[0].Res, p.Calls[1].Res = 3, 1
	holdCheck(t, p, false)
}

func TestCheckKeepsToLimits(t *testing.T) {
	// past answers the operations of a well formed history, whatever its size.
	past := func(l []api.Event) api.Past {
		var p api.Past
		procs := map[string]int{}
		open := map[string]int{}
		for at, ev := range l {
			if _, ok := procs[ev.Proc]; !ok {
				procs[ev.Proc] = len(p.Procs)
				p.Procs = append(p.Procs, ev.Proc)
			}
			if ev.Kind == api.EvInv {
				open[ev.Proc] = len(p.Calls)
				p.Calls = append(p.Calls, api.Call{Proc: procs[ev.Proc], Op: ev.Op, Arg: ev.Value, Inv: at, Res: -1})
			} else {
				c := &p.Calls[open[ev.Proc]]
				c.Res, c.Reply = at, ev.Value
			}
		}
		p.Objects = []string{"x"}
		return p
	}
	for _, n := range []int{9, 10, 11, 12} {
		holdCheck(t, past(crowd(n)), n <= 10)
	}
	for _, n := range []int{63, 64, 65, 66} {
		holdCheck(t, past(queue(n)), n <= 64)
	}
	for _, n := range []int{4095, 4096, 4097, 4098} {
		holdCheck(t, past(alone("p", n)), n <= 4096)
	}
	holdCheck(t, past(alone("p", 50000)), false)
	holdCheck(t, past(crowd(50000)), false)
}

// TestCheckOfChance changes pasts of chance in a field or two.
func TestCheckOfChance(t *testing.T) {
	r := rand.New(rand.NewSource(76))
	right := 0
	for range 60000 {
		p := made(t, chance(r, 1+r.Intn(4), 10))
		for range 1 + r.Intn(2) {
			change(r, &p)
		}
		is := modelCheck(p)
		holdCheck(t, p, is)
		if is {
			right++
		}
	}
	if right < 2000 || right > 58000 {
		t.Errorf("%d of 60000 are right", right)
	}
}

// change does something to a past, which may leave it right.
func change(r *rand.Rand, p *api.Past) {
	if len(p.Calls) == 0 {
		return
	}
	names := append(someNames(), "true", "1", "")
	name := func() string { return names[r.Intn(len(names))] }
	v := append(small(), api.Value{}, api.Value{}, truth(2))[r.Intn(len(small())+3)]
	c, d := &p.Calls[r.Intn(len(p.Calls))], &p.Calls[r.Intn(len(p.Calls))]
	switch r.Intn(13) {
	case 0:
		p.Procs[r.Intn(len(p.Procs))] = name()
	case 1:
		p.Objects[r.Intn(len(p.Objects))] = name()
	case 2:
		c.Op = name()
	case 3:
		c.Arg = v
	case 4:
		c.Reply = v
	case 5:
		c.Proc = r.Intn(len(p.Procs)+2) - 1
	case 6:
		c.Object = r.Intn(len(p.Objects)+2) - 1
	case 7:
		c.Inv += r.Intn(5) - 2
	case 8:
		c.Res += r.Intn(5) - 2
	case 9:
		c.Inv, d.Inv = d.Inv, c.Inv
		slices.SortFunc(p.Calls, func(a, b api.Call) int { return cmp.Compare(a.Inv, b.Inv) })
	case 10:
		c.Res, d.Res, c.Reply, d.Reply = d.Res, c.Res, d.Reply, c.Reply
	case 11:
		c.Res, c.Reply = -1, api.Value{}
	case 12:
		c.Inv, d.Res = d.Res, c.Inv
	}
}

// P7.3

func TestProcAndObject(t *testing.T) {
	p := made(t, []api.Event{inv("q", "y", "a", integer(1)), inv("p", "x", "a", integer(1)), inv("λ", "true", "y", integer(1))})
	for name, want := range map[string][2]int{"q": {0, -1}, "p": {1, -1}, "λ": {2, -1}, "y": {-1, 0}, "x": {-1, 1}, "true": {-1, 2}, "": {-1, -1}, "a": {-1, -1}, "P": {-1, -1}, "q ": {-1, -1}, "false": {-1, -1}} {
		if a, b := history.Proc(p, name), history.Object(p, name); a != want[0] || b != want[1] {
			t.Errorf("Proc, Object of %q: %d, %d, want %d", name, a, b, want)
		}
	}
}

// TestProcAndObjectOfAnyPast: lists are looked through as they are, be they of a right past or not.
func TestProcAndObjectOfAnyPast(t *testing.T) {
	p := api.Past{Procs: []string{"b", "", "a", "b", "a", "1 2", "\xff"}, Objects: []string{"c", "a", "a", ""}, Calls: []api.Call{{Proc: 9}}}
	for name, want := range map[string][2]int{"b": {0, -1}, "": {1, 3}, "a": {2, 1}, "1 2": {5, -1}, "\xff": {6, -1}, "c": {-1, 0}, "d": {-1, -1}} {
		if a, b := history.Proc(p, name), history.Object(p, name); a != want[0] || b != want[1] {
			t.Errorf("Proc, Object of %q: %d, %d, want %d", name, a, b, want)
		}
	}
	if a, b := history.Proc(api.Past{}, ""), history.Object(api.Past{}, ""); a != -1 || b != -1 {
		t.Error("Proc, Object of nothing:", a, b)
	}
}

// R3

func TestEventsAreTheCallersOwn(t *testing.T) {
	v := list(tuple(integer(1)), set(symbol("b")))
	l := []api.Event{inv("p", "x", "a", v), res("p", v), inv("q", "x", "a", list(v)), inv("p", "y", "b", v)}
	p, _, _ := modelMake(l)
	want := copyEvents(l)
	for i := range l {
		got, _ := history.Events(p)
		spoilValue(&got[i].Value)
		got[i].Value = copyValue(want[i].Value)
		if !sameEvents(got, want) {
			t.Errorf("event %d shares memory with another: %v", i, got)
		}
	}
	got, _ := history.Events(p)
	spoilEvents(got)
	if again, e := history.Events(p); !sameEvents(again, want) || e != api.OK {
		t.Error("Events once more:", again, e)
	}
	got, _ = history.Events(p)
	spoilPast(p)
	if !sameEvents(got, want) {
		t.Error("events share memory with their past:", got)
	}
}

func TestPastsAreNotChanged(t *testing.T) {
	r := rand.New(rand.NewSource(77))
	for range 500 {
		p := made(t, chance(r, 6, 20))
		if r.Intn(3) == 0 {
			change(r, &p)
		}
		keep := copyPast(p)
		history.Check(p)
		history.Events(p)
		history.Preds(p)
		history.Open(p, r.Intn(5))
		history.Widest(p)
		history.Proc(p, "p")
		history.Object(p, "p")
		history.Before(p, 0, 1)
		if !samePast(p, keep) {
			t.Fatalf("a past was changed: %v, now %v", keep, p)
		}
	}
}
