package project_test

import (
	"math/rand"
	"slices"
	"strconv"
	"testing"

	"sextant/api"
	"sextant/history"
	"sextant/project"
)

func TestErrorNumbers(t *testing.T) {
	if api.ErrPart != 80 {
		t.Error("ErrPart is another")
	}
}

// example is the chapter's history, with spots.
func example() []api.Event {
	return placed([]api.Event{inv("p", "x", "a", integer(1)), inv("q", "y", "b", integer(2)), res("q", integer(3)), inv("q", "x", "c", integer(4)), res("p", integer(5))})
}

// at answers the events of those places.
func at(l []api.Event, places ...int) []api.Event {
	var row []api.Event
	for _, i := range places {
		row = append(row, l[i])
	}
	return row
}

// holdParts fails unless all parts of a row are what the model says.
func holdParts(t *testing.T, l []api.Event) {
	t.Helper()
	objects, procs := modelRows(l)
	if o, p := project.Objects(l), project.Procs(l); !slices.Equal(o, objects) || !slices.Equal(p, procs) {
		t.Fatalf("of %v: Objects %q, Procs %q, want %q, %q", l, o, p, objects, procs)
	}
	for _, name := range append(slices.Concat(objects, procs), "", "none") {
		if got, want := project.Object(l, name), modelObject(l, name); !sameEvents(got, want) {
			t.Fatalf("Object(%v, %q) = %v, want %v", l, name, got, want)
		}
		if got, want := project.Proc(l, name), modelProc(l, name); !sameEvents(got, want) {
			t.Fatalf("Proc(%v, %q) = %v, want %v", l, name, got, want)
		}
	}
	got, want := project.Whole(l), modelWhole(l)
	if !sameEvents(got, want) {
		t.Fatalf("Whole(%v) = %v, want %v", l, got, want)
	}
	if again := project.Whole(got); !sameEvents(again, got) {
		t.Fatalf("Whole(Whole(%v)) = %v", l, again)
	}
}

// P8.1 to P8.4

func TestParts(t *testing.T) {
	h := example()
	if o, p := project.Objects(h), project.Procs(h); !slices.Equal(o, []string{"x", "y"}) || !slices.Equal(p, []string{"p", "q"}) {
		t.Errorf("Objects %q, Procs %q", o, p)
	}
	for name, want := range map[string][]api.Event{"x": at(h, 0, 3, 4), "y": at(h, 1, 2), "": nil, "p": nil, "X": nil} {
		if l := project.Object(h, name); !sameEvents(l, want) {
			t.Errorf("Object %q: %v, want %v", name, l, want)
		}
	}
	for name, want := range map[string][]api.Event{"p": at(h, 0, 4), "q": at(h, 1, 2, 3), "": nil, "x": nil} {
		if l := project.Proc(h, name); !sameEvents(l, want) {
			t.Errorf("Proc %q: %v, want %v", name, l, want)
		}
	}
	if l := project.Whole(h); !sameEvents(l, at(h, 0, 1, 2, 4)) {
		t.Error("Whole:", l)
	}
	holdParts(t, h)
}

func TestPartsOfNothing(t *testing.T) {
	for _, l := range [][]api.Event{nil, {}} {
		if len(project.Objects(l))+len(project.Procs(l))+len(project.Object(l, ""))+len(project.Proc(l, ""))+len(project.Whole(l)) != 0 {
			t.Error("nothing has parts")
		}
		if got, e := project.Answered(l, nil); len(got) != 0 || e != api.OK {
			t.Error("Answered of nothing:", got, e)
		}
	}
}

// TestObjectsAreThoseOfInvocations: what a response says of objects does not count.
func TestObjectsAreThoseOfInvocations(t *testing.T) {
	l := []api.Event{
		{Kind: api.EvRes, Proc: "b", Object: "u", Value: integer(1)}, {Kind: 3, Proc: "c", Object: "v"}, {Proc: "a", Object: "w"},
		inv("b", "y", "a", integer(1)), inv("a", "", "a", integer(1)), {Kind: api.EvRes, Proc: "b", Object: "u", Value: integer(1)}, inv("b", "x", "a", integer(1)), inv("c", "y", "b", integer(1)),
	}
	if o, p := project.Objects(l), project.Procs(l); !slices.Equal(o, []string{"y", "", "x"}) || !slices.Equal(p, []string{"b", "c", "a"}) {
		t.Errorf("Objects %q, Procs %q", o, p)
	}
	if got := project.Object(l, "u"); len(got) != 0 {
		t.Error("Object of a response:", got)
	}
	if got := project.Object(l, "v"); len(got) != 0 {
		t.Error("Object of an event that is no invocation:", got)
	}
	if got := project.Object(l, "y"); !sameEvents(got, at(l, 3, 5, 7)) {
		t.Error("Object:", got)
	}
	holdParts(t, l)
}

// TestWordsOfAnyEvents: whose call is whose where processes do not behave.
func TestWordsOfAnyEvents(t *testing.T) {
	other := inv("p", "y", "b", integer(1))
	for _, x := range []struct {
		why        string
		l          []api.Event
		x, y, both []int // the places of Object x, of Object y, and of Whole
	}{
		{"a stray response", []api.Event{reply("p")}, nil, nil, nil},
		{"a stray response ahead", []api.Event{reply("p"), call("p")}, []int{1}, nil, nil},
		{"another's response", []api.Event{call("p"), reply("q")}, []int{0}, nil, nil},
		{"two calls, one response", []api.Event{call("p"), other, reply("p")}, []int{0}, []int{1, 2}, []int{1, 2}},
		{"two calls, two responses", []api.Event{call("p"), other, reply("p"), reply("p")}, []int{0}, []int{1, 2}, []int{1, 2}},
		{"one call, two responses", []api.Event{call("p"), reply("p"), reply("p")}, []int{0, 1}, nil, []int{0, 1}},
		{"a stray response in the midst", []api.Event{call("p"), reply("p"), reply("p"), other, reply("p")}, []int{0, 1}, []int{3, 4}, []int{0, 1, 3, 4}},
		{"another's response in the midst", []api.Event{call("p"), reply("q"), reply("p")}, []int{0, 2}, nil, []int{0, 2}},
		{"one of no kind in the midst", []api.Event{call("p"), odd("p"), reply("p")}, []int{0, 2}, nil, []int{0, 1, 2}},
		{"one of no kind alone", []api.Event{odd("p"), {}, {Kind: -1, Object: "x"}}, nil, nil, []int{0, 1, 2}},
		{"two processes", []api.Event{call("p"), inv("q", "y", "a", integer(1)), reply("p"), reply("q")}, []int{0, 2}, []int{1, 3}, []int{0, 1, 2, 3}},
	} {
		l := placed(x.l)
		if got := project.Object(l, "x"); !sameEvents(got, at(l, x.x...)) {
			t.Errorf("%s: Object x: %v", x.why, got)
		}
		if got := project.Object(l, "y"); !sameEvents(got, at(l, x.y...)) {
			t.Errorf("%s: Object y: %v", x.why, got)
		}
		if got := project.Whole(l); !sameEvents(got, at(l, x.both...)) {
			t.Errorf("%s: Whole: %v", x.why, got)
		}
		holdParts(t, l)
	}
}

func TestPartsOfSmallRows(t *testing.T) {
	for l := range rowsOf(5, pieces()...) {
		holdParts(t, l)
	}
}

func TestPartsOfChance(t *testing.T) {
	r := rand.New(rand.NewSource(81))
	for range 5000 {
		holdParts(t, chance(r, 25))
	}
}

// TestWholeIsLayer7s: of a well formed history calls and responses are those of its operations.
func TestWholeIsLayer7s(t *testing.T) {
	r := rand.New(rand.NewSource(82))
	for range 2000 {
		l := wellFormed(r, 5, 30)
		p, _, e := history.Make(l)
		if e != api.OK {
			t.Fatalf("Make(%v): %d", l, e)
		}
		var places []int
		of := map[string][]int{}
		for _, c := range p.Calls {
			own := []int{c.Inv}
			if c.Res >= 0 {
				own = append(own, c.Res)
				places = append(places, own...)
			}
			of[p.Objects[c.Object]] = append(of[p.Objects[c.Object]], own...)
		}
		slices.Sort(places)
		if got := project.Whole(l); !sameEvents(got, at(l, places...)) {
			t.Fatalf("Whole(%v) = %v", l, got)
		}
		for name, own := range of {
			slices.Sort(own)
			if got := project.Object(l, name); !sameEvents(got, at(l, own...)) {
				t.Fatalf("Object(%v, %q) = %v", l, name, got)
			}
		}
		if !slices.Equal(project.Objects(l), p.Objects) || !slices.Equal(project.Procs(l), p.Procs) {
			t.Fatalf("Objects, Procs of %v: %v", l, p)
		}
	}
}

// P8.5

func TestAnswered(t *testing.T) {
	h := example()
	more := placed(append(example(), call("r"), call("p"), odd("r")))
	at9 := reply("q")
	at9.At = api.Spot{Off: 9, Line: 9, Col: 9}
	named := api.Event{Kind: api.EvRes, Proc: "q", Object: "y", Op: "z", Value: integer(1)}
	for _, x := range []struct {
		why        string
		l, replies []api.Event
		e          api.Errno
	}{
		{"the one that is pending", h, []api.Event{res("q", integer(6))}, api.OK},
		{"one that is not pending", h, []api.Event{res("p", integer(6))}, api.ErrPart},
		{"no replies", h, nil, api.OK},
		{"with a spot", h, []api.Event{at9}, api.OK},
		{"with an object and an operation", h, []api.Event{named}, api.OK},
		{"one that is not there", h, []api.Event{reply("r")}, api.ErrPart},
		{"the same twice", h, []api.Event{reply("q"), reply("q")}, api.ErrPart},
		{"a wrong one behind a right one", h, []api.Event{reply("q"), reply("p")}, api.ErrPart},
		{"a wrong one ahead of a right one", h, []api.Event{reply("p"), reply("q")}, api.ErrPart},
		{"an invocation", h, []api.Event{call("q")}, api.ErrPart},
		{"of no kind", h, []api.Event{odd("q")}, api.ErrPart},
		{"of kind 0", h, []api.Event{{Proc: "q", Value: integer(1)}}, api.ErrPart},
		{"no event", h, []api.Event{{}}, api.ErrPart},
		{"no value", h, []api.Event{res("q", api.Value{})}, api.ErrPart},
		{"a value that is not right", h, []api.Event{res("q", truth(2))}, api.ErrPart},
		{"a value that is too deep", h, []api.Event{res("q", nested(17))}, api.ErrPart},
		{"a value that is just not too deep", h, []api.Event{res("q", nested(16))}, api.OK},
		{"a value that is too great", h, []api.Event{res("q", wide(4097))}, api.ErrPart},
		{"a value that is just not too great", h, []api.Event{res("q", wide(4096))}, api.OK},
		{"a list within itself", h, []api.Event{res("q", looped())}, api.ErrPart},
		{"two, in one order", more, []api.Event{reply("p"), reply("q")}, api.OK},
		{"two, in the other order", more, []api.Event{reply("q"), reply("p")}, api.OK},
		{"one with an event of no kind behind", more, []api.Event{reply("r")}, api.ErrPart},
		{"two calls pending", []api.Event{call("p"), call("p")}, []api.Event{reply("p")}, api.OK},
		{"two calls pending, two replies", []api.Event{call("p"), call("p")}, []api.Event{reply("p"), reply("p")}, api.ErrPart},
		{"one pending, and one done behind it", []api.Event{call("p"), call("p"), reply("p")}, []api.Event{reply("p")}, api.ErrPart},
		{"a stray response", []api.Event{reply("p")}, []api.Event{reply("p")}, api.ErrPart},
		{"a call behind a stray response", []api.Event{reply("p"), call("p")}, []api.Event{reply("p")}, api.OK},
		{"a reply to nothing", nil, []api.Event{reply("p")}, api.ErrPart},
		{"a process without a name", []api.Event{call("")}, []api.Event{reply("")}, api.OK},
		{"a call that is not right", []api.Event{inv("p", "", "1", truth(2))}, []api.Event{reply("p")}, api.OK},
	} {
		var want []api.Event
		if x.e == api.OK {
			want = slices.Concat(x.l, x.replies)
		}
		if got, e := project.Answered(x.l, x.replies); e != x.e || !sameEvents(got, want) {
			t.Errorf("Answered, %s: %.300v, %d, want %d", x.why, got, e, x.e)
		}
	}
}

func TestAnsweredOfSmallRows(t *testing.T) {
	for l := range rowsOf(4, pieces()...) {
		for replies := range rowsOf(2, reply("p"), res("q", list()), res("p", truth(2)), call("p"), odd("q")) {
			got, e := project.Answered(l, replies)
			if want, code := modelAnswered(l, replies); e != code || !sameEvents(got, want) {
				t.Fatalf("Answered(%v, %v) = %v, %d, want %d", told(l), told(replies), got, e, code)
			}
		}
	}
}

func TestAnsweredOfChance(t *testing.T) {
	r := rand.New(rand.NewSource(83))
	fit := 0
	for range 20000 {
		l, replies := chance(r, 20), chance(r, 2)
		got, e := project.Answered(l, replies)
		if want, code := modelAnswered(l, replies); e != code || !sameEvents(got, want) {
			t.Fatalf("Answered(%v, %v) = %v, %d, want %d", l, replies, got, e, code)
		}
		if e == api.OK && len(replies) > 0 {
			fit++
		}
	}
	if fit < 300 {
		t.Errorf("only %d fit", fit)
	}
}

// P8.9

// TestObjectsHaveAllEvents: each event but a stray response, or one of no kind, is of just one object.
func TestObjectsHaveAllEvents(t *testing.T) {
	hold := func(l []api.Event) {
		parts := map[api.Spot]int{}
		for _, name := range project.Objects(l) {
			for _, ev := range project.Object(l, name) {
				parts[ev.At]++
			}
		}
		for i, ev := range l {
			want := 1
			if ev.Kind != api.EvInv && modelCall(l, i) < 0 {
				want = 0
			}
			if parts[ev.At] != want {
				t.Fatalf("of %v event %d is of %d objects", told(l), i, parts[ev.At])
			}
		}
	}
	for l := range rowsOf(5, pieces()...) {
		hold(l)
	}
	r := rand.New(rand.NewSource(84))
	for range 2000 {
		hold(chance(r, 25))
	}
}

// R1

// TestPartsOfWrongValues: values are no matter, and are answered as they are.
func TestPartsOfWrongValues(t *testing.T) {
	for _, v := range append(someValues(), wide(5000), nested(1<<16)) {
		l := []api.Event{inv("p", "x", "a", v), res("p", v)}
		if !sameEvents(project.Object(l, "x"), l) || !sameEvents(project.Proc(l, "p"), l) || !sameEvents(project.Whole(l), l) {
			t.Errorf("the parts of %.300v are others", l)
		}
		if got, e := project.Answered(l[:1], []api.Event{reply("p")}); e != api.OK || !sameEvents(got, []api.Event{l[0], reply("p")}) {
			t.Errorf("Answered(%.300v) = %.300v, %d", l, got, e)
		}
	}
}

// TestCallsEnd: a list that is an item of itself is beyond what is promised, but no call is lost in it.
func TestCallsEnd(t *testing.T) {
	l := []api.Event{inv("p", "x", "a", looped()), res("p", looped())}
	if len(project.Object(l, "x")) != 2 || len(project.Proc(l, "p")) != 2 || len(project.Whole(l)) != 2 {
		t.Error("the parts of a list within itself")
	}
	if got, e := project.Answered(l[:1], []api.Event{reply("p")}); len(got) != 2 || e != api.OK {
		t.Error("Answered, of a list within itself:", e)
	}
	if project.Alike(l, l) || project.Keeps(l, l) {
		t.Error("a list within itself is no value, and like nothing")
	}
	n := 0
	for row := range project.Merges(l, l[:1]) {
		n += len(row)
	}
	if n != 9 {
		t.Error("Merges of a list within itself:", n)
	}
}

// TestLongRows: no event costs a look at all others.
func TestLongRows(t *testing.T) {
	const many = 200000
	var l []api.Event
	for i := range many {
		name := "p" + strconv.Itoa(i)
		l = append(l, inv(name, "x"+strconv.Itoa(i), "a", integer(1)), res(name, integer(2)))
	}
	if o, p := project.Objects(l), project.Procs(l); len(o) != many || len(p) != many || o[many-1] != "x199999" || p[7] != "p7" {
		t.Error("Objects, Procs:", len(o), len(p))
	}
	if o, p, w := project.Object(l, "x9"), project.Proc(l, "p9"), project.Whole(l); !sameEvents(o, l[18:20]) || !sameEvents(p, l[18:20]) || !sameEvents(w, l) {
		t.Error("Object, Proc, Whole:", o, p, len(w))
	}
	if got, e := project.Answered(append(slices.Clip(l), call("q")), []api.Event{reply("q")}); len(got) != 2*many+2 || e != api.OK {
		t.Error("Answered:", len(got), e)
	}
	if !project.Alike(l, l) || !project.Keeps(l, l) {
		t.Error("Alike, Keeps")
	}
	changed := slices.Clone(l)
	changed[1], changed[2] = l[2], l[1]
	if !project.Alike(l, changed) || project.Keeps(l, changed) || !project.Keeps(changed, l) {
		t.Error("Alike, Keeps, of one that is changed")
	}
	one := slices.Repeat([]api.Event{call("p"), reply("p")}, many)
	if !project.Keeps(one, one) || len(project.Whole(one)) != 2*many || len(project.Object(one, "x")) != 2*many {
		t.Error("of one process: Keeps, Whole, Object")
	}
}

// R3

// TestAnswersAreTheCallersOwn: whatever is done to an answer, arguments, other answers and the rest of it stay.
func TestAnswersAreTheCallersOwn(t *testing.T) {
	v := list(tuple(integer(1)), set(symbol("b")))
	l := placed([]api.Event{inv("p", "x", "a", v), res("p", v), inv("p", "x", "a", list(v)), {Kind: 3, Proc: "p", Value: v}, inv("p", "x", "b", v)})
	replies := []api.Event{res("p", v)}
	calls := map[string]func() []api.Event{
		"Object": func() []api.Event { return project.Object(l, "x") },
		"Proc":   func() []api.Event { return project.Proc(l, "p") },
		"Whole":  func() []api.Event { return project.Whole(l) },
		"Answered": func() []api.Event {
			got, _ := project.Answered(l, replies)
			return got
		},
		"Answered with nothing": func() []api.Event {
			got, _ := project.Answered(l, nil)
			return got
		},
	}
	keep, keepReplies := copyEvents(l), copyEvents(replies)
	for name, do := range calls {
		want := copyEvents(do())
		for i := range want {
			got := do()
			spoilEvents(got[i : i+1])
			got[i] = copyEvents(want)[i]
			if !sameEvents(got, want) {
				t.Errorf("%s: event %d shares memory with another: %v", name, i, got)
			}
		}
		spoilEvents(do())
		if !sameEvents(do(), want) || !sameEvents(l, keep) || !sameEvents(replies, keepReplies) {
			t.Fatalf("%s: an answer shares memory with what was handed in", name)
		}
		got := append(do(), api.Event{})
		if !sameEvents(got[:len(want)], want) || !sameEvents(l, keep) {
			t.Errorf("%s: an answer has no room of its own", name)
		}
	}
	names := append(project.Objects(l), project.Procs(l)...)
	for i := range names {
		names[i] = "spoilt"
	}
	if !sameEvents(l, keep) || !slices.Equal(project.Objects(l), []string{"x"}) || !slices.Equal(project.Procs(l), []string{"p"}) {
		t.Error("Objects, Procs share memory")
	}
}

func TestArgumentsAreNotChanged(t *testing.T) {
	r := rand.New(rand.NewSource(85))
	for range 2000 {
		a, b := chance(r, 12), chance(r, 3)
		keepA, keepB := copyEvents(a), copyEvents(b)
		project.Objects(a)
		project.Procs(a)
		project.Object(a, "p")
		project.Proc(a, "p")
		project.Whole(a)
		project.Answered(a, b)
		project.Alike(a, b)
		project.Keeps(a, shuffled(r, a, 5))
		for row := range project.Merges(a, b) {
			spoilEvents(row)
		}
		if !sameEvents(a, keepA) || !sameEvents(b, keepB) {
			t.Fatalf("an argument was changed: %v, %v", keepA, keepB)
		}
	}
}

// TestRoomBehindIsNotWritten: what stands in the caller's memory behind a list is none of its business.
func TestRoomBehindIsNotWritten(t *testing.T) {
	whole := append(example(), call("r"), call("s"))
	keep := copyEvents(whole)
	l := whole[:5]
	project.Answered(l, []api.Event{reply("q")})
	project.Object(l, "x")
	project.Proc(l, "q")
	project.Whole(l)
	for range project.Merges(l, l[:2]) {
	}
	if !sameEvents(whole, keep) {
		t.Error("events behind the list were changed:", whole)
	}
}
