package history_test

import (
	"math/rand"
	"slices"
	"strconv"
	"testing"

	"sextant/api"
	"sextant/history"
)

func TestErrorNumbers(t *testing.T) {
	if api.ErrArg != 2 || api.ErrIdle != 70 || api.ErrBusy != 71 || api.ErrLarge != 72 {
		t.Error("an error is another")
	}
}

// call and reply are events of which nothing but the process matters.
func call(proc string) api.Event  { return inv(proc, "x", "a", integer(1)) }
func reply(proc string) api.Event { return res(proc, integer(2)) }

// crowd is a call each of so many processes, from p0 on.
func crowd(n int) []api.Event {
	var l []api.Event
	for i := range n {
		l = append(l, call("p"+strconv.Itoa(i)))
	}
	return l
}

// queue is a call and its response each of so many processes, from p0 on.
func queue(n int) []api.Event {
	var l []api.Event
	for i := range n {
		l = append(l, call("p"+strconv.Itoa(i)), reply("p"+strconv.Itoa(i)))
	}
	return l
}

// alone is so many operations of one process.
func alone(proc string, n int) []api.Event {
	return slices.Repeat([]api.Event{call(proc), reply(proc)}, n)
}

// holdMake fails unless Make answers what the model does.
func holdMake(t *testing.T, l []api.Event) {
	t.Helper()
	p, at, e := history.Make(l)
	want, place, code := modelMake(l)
	if !samePast(p, want) || at != place || e != code {
		t.Fatalf("Make(%.600v) = %.600v, %d, %d, want %.600v, %d, %d", l, p, at, e, want, place, code)
	}
}

// P7.1

func TestMake(t *testing.T) {
	none := api.Value{}
	for _, x := range []struct {
		l    []api.Event
		want api.Past
	}{
		{nil, api.Past{}},
		{[]api.Event{}, api.Past{}},
		{
			[]api.Event{inv("p", "q", "enq", integer(1)), inv("r", "q", "deq", tuple()), res("p", truth(1)), res("r", integer(1))},
			api.Past{Procs: []string{"p", "r"}, Objects: []string{"q"}, Calls: []api.Call{
				{Proc: 0, Object: 0, Op: "enq", Arg: integer(1), Inv: 0, Res: 2, Reply: truth(1)},
				{Proc: 1, Object: 0, Op: "deq", Arg: tuple(), Inv: 1, Res: 3, Reply: integer(1)},
			}},
		},
		{
			[]api.Event{inv("z", "true", "a", symbol("b"))},
			api.Past{Procs: []string{"z"}, Objects: []string{"true"}, Calls: []api.Call{{Op: "a", Arg: symbol("b"), Inv: 0, Res: -1, Reply: none}}},
		},
		{
			[]api.Event{inv("z", "y", "a", integer(1)), res("z", list()), inv("b", "false", "z", integer(2)), inv("z", "x", "y", integer(3)), res("b", set(integer(7)))},
			api.Past{Procs: []string{"z", "b"}, Objects: []string{"y", "false", "x"}, Calls: []api.Call{
				{Proc: 0, Object: 0, Op: "a", Arg: integer(1), Inv: 0, Res: 1, Reply: list()},
				{Proc: 1, Object: 1, Op: "z", Arg: integer(2), Inv: 2, Res: 4, Reply: set(integer(7))},
				{Proc: 0, Object: 2, Op: "y", Arg: integer(3), Inv: 3, Res: -1, Reply: none},
			}},
		},
	} {
		if p, at, e := history.Make(x.l); !samePast(p, x.want) || at != 0 || e != api.OK {
			t.Errorf("Make(%v) = %v, %d, %d, want %v", x.l, p, at, e, x.want)
		}
		holdMake(t, x.l)
	}
}

func TestMakeTellsTheFirstFault(t *testing.T) {
	bad := inv("p", "x", "true", integer(1))
	badReply := res("p", truth(2))
	for _, x := range []struct {
		why string
		l   []api.Event
		at  int
		e   api.Errno
	}{
		{"a response alone", []api.Event{res("p", integer(1))}, 0, api.ErrIdle},
		{"two calls of one process", []api.Event{inv("p", "q", "a", integer(1)), inv("p", "q", "b", integer(1))}, 1, api.ErrBusy},
		{"two calls on two objects", []api.Event{inv("p", "x", "a", integer(1)), inv("p", "y", "b", integer(1))}, 1, api.ErrBusy},
		{"two responses", []api.Event{call("p"), reply("p"), reply("p")}, 2, api.ErrIdle},
		{"another's response", []api.Event{call("p"), reply("q")}, 1, api.ErrIdle},
		{"a third call", []api.Event{call("p"), reply("p"), call("q"), call("p"), call("q")}, 4, api.ErrBusy},
		{"a wrong call", []api.Event{bad}, 0, api.ErrArg},
		{"a wrong call of a busy process", []api.Event{call("p"), bad}, 1, api.ErrArg},
		{"a wrong response of an idle process", []api.Event{call("p"), reply("p"), badReply}, 2, api.ErrArg},
		{"a busy one ahead of a wrong one", []api.Event{call("p"), call("p"), bad}, 1, api.ErrBusy},
		{"an idle one ahead of a wrong one", []api.Event{reply("p"), badReply}, 0, api.ErrIdle},
		{"a wrong one ahead of an idle one", []api.Event{call("q"), bad, reply("p")}, 1, api.ErrArg},
		{"an idle one ahead of a busy one", []api.Event{call("q"), reply("p"), call("q")}, 1, api.ErrIdle},
	} {
		if p, at, e := history.Make(x.l); !empty(p) || at != x.at || e != x.e {
			t.Errorf("Make, %s: %v, %d, %d, want %d, %d", x.why, p, at, e, x.at, x.e)
		}
		holdMake(t, x.l)
	}
}

func TestMakeRefusesWrongEvents(t *testing.T) {
	around := []api.Event{call("q"), call("p"), reply("q")}
	for why, ev := range wrongEvents() {
		for place := range len(around) + 1 {
			l := slices.Insert(slices.Clone(around), place, ev)
			if p, at, e := history.Make(l); !empty(p) || at != place || e != api.ErrArg {
				t.Errorf("Make, %s, at %d: %v, %d, %d", why, place, p, at, e)
			}
		}
	}
}

func TestMakeTakesRightNamesAndValues(t *testing.T) {
	values := append(small(), nested(16), wide(4096))
	for _, name := range append(someNames(), "true", "false") {
		holdMake(t, []api.Event{inv("p", name, "a", integer(1)), res("p", integer(1))})
		holdMake(t, []api.Event{inv(name, "x", "a", integer(1)), res(name, integer(1))})
		holdMake(t, []api.Event{inv("p", "x", name, integer(1))})
	}
	for _, v := range values {
		l := []api.Event{inv("p", "x", "a", v), res("p", v)}
		if p, at, e := history.Make(l); e != api.OK || at != 0 || len(p.Calls) != 1 || !sameValue(p.Calls[0].Arg, v) || !sameValue(p.Calls[0].Reply, v) {
			t.Errorf("Make of %.300v: %.300v, %d, %d", l, p, at, e)
		}
	}
}

func TestMakeLooksAtNoSpots(t *testing.T) {
	r := rand.New(rand.NewSource(71))
	for range 300 {
		l := chance(r, 4, 12)
		p, _, e := history.Make(l)
		q, _, g := history.Make(unplaced(l))
		if e != api.OK || g != api.OK || !samePast(p, q) {
			t.Fatalf("Make(%v) = %v, without spots %v", l, p, q)
		}
	}
}

func TestMakeKeepsToLimits(t *testing.T) {
	join := func(rows ...[]api.Event) []api.Event { return slices.Concat(rows...) }
	bad := []api.Event{inv("p", "x", "true", integer(1))}
	for _, x := range []struct {
		why string
		l   []api.Event
		at  int
		e   api.Errno
	}{
		{"10 open", crowd(10), 0, api.OK},
		{"11 open", crowd(11), 10, api.ErrLarge},
		{"20 open", crowd(20), 10, api.ErrLarge},
		{"11 open, closed later", join(crowd(11), []api.Event{reply("p0")}), 10, api.ErrLarge},
		{"10 open, again and again", join(crowd(10), []api.Event{reply("p3"), call("p3"), reply("p0"), call("p10")}), 0, api.OK},
		{"11 open behind others", join(alone("p0", 7), crowd(11)), 24, api.ErrLarge},
		{"64 processes", queue(64), 0, api.OK},
		{"64 processes, twice", join(queue(64), queue(64), crowd(10)), 0, api.OK},
		{"65 processes", queue(65), 128, api.ErrLarge},
		{"65 processes, the last one open", queue(65)[:129], 128, api.ErrLarge},
		{"4096 operations", alone("p", 4096), 0, api.OK},
		{"4096 operations, the last one open", alone("p", 4096)[:8191], 0, api.OK},
		{"4097 operations", alone("p", 4097), 8192, api.ErrLarge},
		{"4097 operations, the last one open", alone("p", 4097)[:8193], 8192, api.ErrLarge},
		{"4097 operations with pending ones", join(crowd(2), alone("p", 4095)), 8190, api.ErrLarge},
		{"11 open ahead of 65 processes", join(crowd(11), queue(70)[22:]), 10, api.ErrLarge},
		{"65 processes ahead of 11 open", join(queue(65), crowd(11)), 128, api.ErrLarge},
		{"65 processes ahead of 4097 operations", join(queue(65), alone("p", 4097)), 128, api.ErrLarge},
		{"4097 operations ahead of 65 processes", join(alone("p", 4097), queue(65)), 8192, api.ErrLarge},
		{"11 open, then a response of a twelfth", join(crowd(11), []api.Event{reply("p11")}), 11, api.ErrIdle},
		{"11 open, then one of them once more", join(crowd(11), []api.Event{call("p10")}), 11, api.ErrBusy},
		{"11 open, then a wrong one", join(crowd(11), bad), 11, api.ErrArg},
		{"65 processes, then a wrong one", join(queue(65), bad), 130, api.ErrArg},
		{"65 processes, then a response of the last", join(queue(65), []api.Event{reply("p64")}), 130, api.ErrIdle},
		{"4097 operations, then a response", join(alone("p", 4097), []api.Event{reply("p")}), 8194, api.ErrIdle},
	} {
		p, at, e := history.Make(x.l)
		if at != x.at || e != x.e || e != api.OK && !empty(p) || e == api.OK && history.Check(p) != api.OK {
			t.Errorf("Make, %s: %.300v, %d, %d, want %d, %d", x.why, p, at, e, x.at, x.e)
		}
		if len(x.l) < 1000 {
			holdMake(t, x.l)
		}
	}
}

// TestMakeOfManyObjects: objects have no limit of their own.
func TestMakeOfManyObjects(t *testing.T) {
	var l []api.Event
	for i := range api.MaxCalls {
		l = append(l, inv("p", "x"+strconv.Itoa(i), "a", integer(1)), reply("p"))
	}
	p, at, e := history.Make(l)
	if len(p.Objects) != api.MaxCalls || p.Calls[api.MaxCalls-1].Object != api.MaxCalls-1 || at != 0 || e != api.OK || history.Check(p) != api.OK {
		t.Errorf("Make of many objects: %d, %d, %d", len(p.Objects), at, e)
	}
}

func TestMakeOfSmallRows(t *testing.T) {
	pieces := []api.Event{call("p"), call("q"), inv("q", "y", "b", truth(0)), reply("p"), reply("q"), inv("false", "x", "a", integer(1))}
	var down func(l []api.Event)
	down = func(l []api.Event) {
		holdMake(t, l)
		if len(l) == 6 {
			return
		}
		for _, ev := range pieces {
			down(append(slices.Clip(l), ev))
		}
	}
	down(nil)
}

func TestMakeOfChance(t *testing.T) {
	r := rand.New(rand.NewSource(72))
	wrong := wrongEvents()
	var kinds []string
	for why := range wrong {
		if why != "the argument: a list within itself" && why != "the reply: a list within itself" {
			kinds = append(kinds, why)
		}
	}
	slices.Sort(kinds)
	for range 4000 {
		l := chance(r, 1+r.Intn(12), 24)
		holdMake(t, l)
		place := r.Intn(len(l) + 1)
		holdMake(t, slices.Insert(slices.Clone(l), place, []api.Event{reply("p"), call("p"), wrong[kinds[r.Intn(len(kinds))]]}[r.Intn(3)]))
	}
}

// TestMakeOfCrowdsOfChance makes histories about the limits of processes and of what is open.
func TestMakeOfCrowdsOfChance(t *testing.T) {
	r := rand.New(rand.NewSource(73))
	seen := map[api.Errno]int{}
	for range 400 {
		procs, most := 60+r.Intn(8), 8+r.Intn(4)
		var l []api.Event
		var open []string
		for range 150 + r.Intn(250) {
			name := "p" + strconv.Itoa(r.Intn(procs))
			if len(open) == most {
				name = open[r.Intn(most)]
			}
			if at := slices.Index(open, name); at >= 0 {
				open = slices.Delete(open, at, at+1)
				l = append(l, reply(name))
			} else {
				open = append(open, name)
				l = append(l, call(name))
			}
		}
		holdMake(t, l)
		_, _, e := history.Make(l)
		seen[e]++
	}
	if seen[api.OK] < 20 || seen[api.ErrLarge] < 20 {
		t.Error("Make of crowds:", seen)
	}
}

// TestMakeOfLongRows: no event costs a look at all those ahead of it.
func TestMakeOfLongRows(t *testing.T) {
	const many = 300000
	l := alone("p", many)
	if p, at, e := history.Make(l); !empty(p) || at != 2*api.MaxCalls || e != api.ErrLarge {
		t.Errorf("Make of many operations: %d, %d", at, e)
	}
	if p, at, e := history.Make(append(l, reply("p"))); !empty(p) || at != 2*many || e != api.ErrIdle {
		t.Errorf("Make of many operations and a fault: %d, %d", at, e)
	}
	if p, at, e := history.Make(crowd(many)); !empty(p) || at != api.MaxOpen || e != api.ErrLarge {
		t.Errorf("Make of many processes: %d, %d", at, e)
	}
	if p, at, e := history.Make(append(crowd(many), call("p0"))); !empty(p) || at != many || e != api.ErrBusy {
		t.Errorf("Make of many processes and a fault: %d, %d", at, e)
	}
}

// R3

func TestPastsAreTheCallersOwn(t *testing.T) {
	v := list(tuple(integer(1)), set(symbol("b")))
	l := []api.Event{inv("p", "x", "a", v), res("p", v), inv("q", "x", "a", list(v)), inv("p", "y", "b", v)}
	keep := copyEvents(l)
	p, _, _ := history.Make(l)
	want, _, _ := modelMake(keep)
	spoilEvents(l)
	if !samePast(p, want) {
		t.Error("a past shares memory with its events:", p)
	}
	for i := range p.Calls {
		q, _, _ := history.Make(keep)
		rest := copyPast(q)
		spoilValue(&q.Calls[i].Arg)
		q.Calls[i].Arg = copyValue(rest.Calls[i].Arg)
		if !samePast(q, rest) {
			t.Errorf("the argument of call %d shares memory: %v", i, q)
		}
		spoilValue(&q.Calls[i].Reply)
		q.Calls[i].Reply = copyValue(rest.Calls[i].Reply)
		if !samePast(q, rest) {
			t.Errorf("the reply of call %d shares memory: %v", i, q)
		}
	}
	spoilPast(p)
	if again, _, e := history.Make(keep); !samePast(again, want) || e != api.OK {
		t.Error("Make once more:", again, e)
	}
}

func TestEventsAreNotChanged(t *testing.T) {
	r := rand.New(rand.NewSource(74))
	for range 500 {
		l := chance(r, 12, 30)
		keep := copyEvents(l)
		history.Make(l)
		if !sameEvents(l, keep) {
			t.Fatalf("events were changed: %v, now %v", keep, l)
		}
	}
}
