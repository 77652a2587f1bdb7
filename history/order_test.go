package history_test

import (
	"math"
	"math/rand"
	"slices"
	"testing"

	"sextant/api"
	"sextant/bits"
	"sextant/history"
)

// modelOpen answers what is open at a place, of any past.
func modelOpen(p api.Past, at int) []int {
	var l []int
	for i, c := range p.Calls {
		if invoked, responded := c.Inv < at, c.Res >= 0 && c.Res < at; invoked && !responded {
			l = append(l, i)
		}
	}
	return l
}

// samples are pasts of right histories: small ones, and some of chance.
func samples(t *testing.T) []api.Past {
	t.Helper()
	var l []api.Past
	for h := range histories(6, "pqr", "x") {
		l = append(l, made(t, h))
	}
	r := rand.New(rand.NewSource(78))
	for range 200 {
		l = append(l, made(t, chance(r, 10, 60)))
	}
	return append(l, made(t, queue(64)), made(t, crowd(10)), made(t, alone("p", 70)), made(t, slices.Concat(crowd(9), alone("p", 200))))
}

// wrongPasts are pasts of no history.
func wrongPasts(t *testing.T) []api.Past {
	t.Helper()
	l := []api.Past{{Procs: []string{"p"}}, {Objects: []string{"x"}}, {Calls: make([]api.Call, 1)}, {Calls: make([]api.Call, 5000)}}
	r := rand.New(rand.NewSource(79))
	for len(l) < 300 {
		p := made(t, chance(r, 4, 10))
		if change(r, &p); !modelCheck(p) {
			l = append(l, p)
		}
	}
	return l
}

// P7.4

func TestBefore(t *testing.T) {
	p := made(t, []api.Event{call("p"), call("q"), reply("p"), call("p"), reply("q"), call("q")})
	// 0: p 0 to 2; 1: q 1 to 4; 2: p from 3 on; 3: q from 5 on.
	for a := -1; a <= 4; a++ {
		for b := -1; b <= 4; b++ {
			want := a == 0 && b == 2 || a == 0 && b == 3 || a == 1 && b == 3
			if got := history.Before(p, a, b); got != want {
				t.Errorf("Before(%d, %d) = %t", a, b, got)
			}
		}
	}
	q := made(t, []api.Event{inv("p", "q", "enq", integer(1)), inv("r", "q", "deq", tuple()), res("p", truth(1)), res("r", integer(1))})
	if history.Before(q, 0, 1) || history.Before(q, 1, 0) {
		t.Error("Before of two that overlap: true")
	}
}

// TestBeforeOfAnyPast: places are held against each other as they are, be the past right or not.
func TestBeforeOfAnyPast(t *testing.T) {
	some := []int{math.MinInt, -2, -1, 0, 1, 2, 5, math.MaxInt}
	for _, end := range some {
		for _, start := range some {
			p := api.Past{Calls: []api.Call{{Inv: 7, Res: end, Proc: -3, Object: 9}, {Inv: start, Res: -1}}}
			want := end >= 0 && end < start
			if history.Before(p, 0, 1) != want || history.Before(p, 1, 0) {
				t.Errorf("Before, a response at %d and an invocation at %d: %t", end, start, !want)
			}
			if own := end >= 0 && end < 7; history.Before(p, 0, 0) != own {
				t.Errorf("Before, an operation from 7 to %d: %t", end, !own)
			}
		}
	}
	p := api.Past{Calls: []api.Call{{Inv: 3, Res: 0}, {Inv: 4, Res: 0}}}
	for _, i := range []int{-1, 2, 3, math.MaxInt, math.MinInt} {
		for k := range 2 {
			if history.Before(p, i, k) || history.Before(p, k, i) || history.Before(p, i, i) || history.Before(api.Past{}, i, k) {
				t.Errorf("Before, %d is no operation: true", i)
			}
		}
	}
	if history.Before(api.Past{}, 0, 0) {
		t.Error("Before of nothing: true")
	}
}

// P7.5

func TestPreds(t *testing.T) {
	for _, p := range samples(t) {
		l, e := history.Preds(p)
		if len(l) != len(p.Calls) || e != api.OK {
			t.Fatalf("Preds(%v) = %v, %d", p, l, e)
		}
		for b, words := range l {
			want, _ := bits.New(len(p.Calls))
			for a := range p.Calls {
				if p.Calls[a].Res >= 0 && p.Calls[a].Res < p.Calls[b].Inv {
					want.Put(a)
				}
			}
			if !slices.Equal(words, want.Words()) {
				t.Fatalf("Preds(%v) of %d = %v, want %v", p, b, words, want.Words())
			}
			if _, e := bits.Of(len(p.Calls), words); e != api.OK {
				t.Fatalf("Preds(%v) of %d = %v: no words of a set", p, b, words)
			}
		}
	}
}

// TestPredsOfAllThereMayBe: at the limit of operations words are full.
func TestPredsOfAllThereMayBe(t *testing.T) {
	l, e := history.Preds(made(t, alone("p", api.MaxCalls)))
	if len(l) != api.MaxCalls || e != api.OK {
		t.Fatal("Preds:", len(l), e)
	}
	for i, words := range l {
		for k, w := range words {
			if full := min(max(i-64*k, 0), 64); len(words) != 64 || w != 1<<full-1 {
				t.Fatalf("Preds of %d: word %d of %d is %x", i, k, len(words), w)
			}
		}
	}
}

func TestOpen(t *testing.T) {
	p := made(t, []api.Event{inv("p", "q", "enq", integer(1)), inv("r", "q", "deq", tuple()), res("p", truth(1)), res("r", integer(1))})
	for at, want := range [][]int{{}, {0}, {0, 1}, {1}, {}} {
		if l, e := history.Open(p, at); !slices.Equal(l, want) || e != api.OK {
			t.Errorf("Open at %d: %v, %d, want %v", at, l, e, want)
		}
	}
	for _, at := range []int{-1, 5, 6, math.MaxInt, math.MinInt} {
		if l, e := history.Open(p, at); len(l) != 0 || e != api.ErrArg {
			t.Errorf("Open at %d: %v, %d", at, l, e)
		}
	}
	if l, e := history.Open(api.Past{}, 0); len(l) != 0 || e != api.OK {
		t.Error("Open of nothing at 0:", l, e)
	}
	if l, e := history.Open(api.Past{}, 1); len(l) != 0 || e != api.ErrArg {
		t.Error("Open of nothing at 1:", l, e)
	}
}

func TestOpenAndWidest(t *testing.T) {
	for _, p := range samples(t) {
		events, _ := history.Events(p)
		widest := 0
		for at := range len(events) + 1 {
			want := modelOpen(p, at)
			if l, e := history.Open(p, at); !slices.Equal(l, want) || e != api.OK {
				t.Fatalf("Open(%v, %d) = %v, %d, want %v", p, at, l, e, want)
			}
			widest = max(widest, len(want))
		}
		for _, at := range []int{-1, len(events) + 1} {
			if l, e := history.Open(p, at); len(l) != 0 || e != api.ErrArg {
				t.Fatalf("Open(%v, %d) = %v, %d", p, at, l, e)
			}
		}
		if n, e := history.Widest(p); n != widest || e != api.OK {
			t.Fatalf("Widest(%v) = %d, %d, want %d", p, n, e, widest)
		}
	}
}

func TestWidest(t *testing.T) {
	for _, x := range []struct {
		l    []api.Event
		want int
	}{
		{nil, 0},
		{crowd(1), 1},
		{crowd(10), 10},
		{queue(3), 1},
		{alone("p", 4096), 1},
		{[]api.Event{call("p"), call("q"), reply("p"), reply("q"), call("p")}, 2},
		{slices.Concat(queue(3), crowd(7)), 7},
		{[]api.Event{inv("p", "q", "enq", integer(1)), inv("r", "q", "deq", tuple()), res("p", truth(1)), res("r", integer(1))}, 2},
	} {
		if n, e := history.Widest(made(t, x.l)); n != x.want || e != api.OK {
			t.Errorf("Widest(%.300v) = %d, %d, want %d", x.l, n, e, x.want)
		}
	}
}

func TestWrongPastsAreRefused(t *testing.T) {
	for _, p := range wrongPasts(t) {
		if l, e := history.Preds(p); len(l) != 0 || e != api.ErrArg {
			t.Fatalf("Preds(%.300v) = %v, %d", p, l, e)
		}
		for _, at := range []int{0, 1, len(p.Calls), -1, 100000} {
			if l, e := history.Open(p, at); len(l) != 0 || e != api.ErrArg {
				t.Fatalf("Open(%.300v, %d) = %v, %d", p, at, l, e)
			}
		}
		if n, e := history.Widest(p); n != 0 || e != api.ErrArg {
			t.Fatalf("Widest(%.300v) = %d, %d", p, n, e)
		}
		if l, e := history.Events(p); len(l) != 0 || e != api.ErrArg {
			t.Fatalf("Events(%.300v) = %v, %d", p, l, e)
		}
	}
}

// P7.6

func TestWhatPrecedesIsAnIntervalOrder(t *testing.T) {
	for l := range histories(7, "pqr", "x") {
		p := made(t, l)
		n := len(p.Calls)
		var pairs [][2]int
		for a := range n {
			for b := range n {
				if history.Before(p, a, b) {
					pairs = append(pairs, [2]int{a, b})
				}
				if p.Calls[a].Proc == p.Calls[b].Proc && history.Before(p, a, b) != (a < b) {
					t.Fatalf("%v: of one process, %d before %d: %t", p, a, b, a >= b)
				}
			}
			if history.Before(p, a, a) {
				t.Fatalf("%v: %d precedes itself", p, a)
			}
		}
		for _, x := range pairs {
			for _, y := range pairs {
				if x[1] == y[0] && !history.Before(p, x[0], y[1]) {
					t.Fatalf("%v: %d, %d: it does not carry over", p, x, y)
				}
				if !history.Before(p, x[0], y[1]) && !history.Before(p, y[0], x[1]) {
					t.Fatalf("%v: %d, %d: no interval order", p, x, y)
				}
			}
		}
	}
}

func TestMakeOfEvents(t *testing.T) {
	for _, p := range samples(t) {
		l, e := history.Events(p)
		if q, at, g := history.Make(l); !samePast(q, p) || at != 0 || e != api.OK || g != api.OK {
			t.Fatalf("Make(Events(%v)) = %v, %d, %d", p, q, at, g)
		}
	}
}

// R3

func TestListsAreTheCallersOwn(t *testing.T) {
	p := made(t, slices.Concat(queue(5), crowd(5)))
	want, _ := history.Preds(p)
	for i := range want {
		l, _ := history.Preds(p)
		l[i][0] = ^l[i][0]
		l[i] = append(l[i], 1)
		for k := range l {
			if k != i && !slices.Equal(l[k], want[k]) {
				t.Errorf("Preds: row %d shares memory with row %d", i, k)
			}
		}
	}
	open, _ := history.Open(p, 15)
	keep := slices.Clone(open)
	clear(open)
	if again, _ := history.Open(p, 15); !slices.Equal(again, keep) {
		t.Error("Open once more:", again)
	}
}
