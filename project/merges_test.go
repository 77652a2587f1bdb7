package project_test

import (
	"math/rand"
	"slices"
	"testing"

	"sextant/api"
	"sextant/project"
)

// stamped makes so many events that can be told from one another.
func stamped(proc string, n int) []api.Event {
	var l []api.Event
	for i := range n {
		l = append(l, inv(proc, "x", "a", list(integer(int64(i)))))
	}
	return placed(l)
}

// P8.8

func TestMerges(t *testing.T) {
	one, two, three := inv("p", "x", "a", integer(1)), res("p", integer(2)), inv("q", "x", "b", integer(3))
	for _, x := range []struct {
		a, b []api.Event
		want [][]api.Event
	}{
		{[]api.Event{one, two}, []api.Event{three}, [][]api.Event{{one, two, three}, {one, three, two}, {three, one, two}}},
		{[]api.Event{three}, []api.Event{one, two}, [][]api.Event{{three, one, two}, {one, three, two}, {one, two, three}}},
		{[]api.Event{one}, []api.Event{one}, [][]api.Event{{one, one}, {one, one}}},
		{[]api.Event{one, two}, nil, [][]api.Event{{one, two}}},
		{nil, []api.Event{one, two}, [][]api.Event{{one, two}}},
		{nil, []api.Event{}, [][]api.Event{{}}},
	} {
		got := slices.Collect(project.Merges(x.a, x.b))
		if !slices.EqualFunc(got, x.want, sameEvents) {
			t.Errorf("Merges(%v, %v) = %v, want %v", told(x.a), told(x.b), got, x.want)
		}
	}
}

func TestMergesAreAllInOrder(t *testing.T) {
	for m := range 8 {
		for n := range 8 {
			a, b := stamped("p", m), stamped("q", n)
			got, want := slices.Collect(project.Merges(a, b)), modelMerges(a, b)
			if !slices.EqualFunc(got, want, sameEvents) {
				t.Fatalf("Merges of %d and %d events: %d rows, want %d", m, n, len(got), len(want))
			}
		}
	}
}

func TestMergesOfAnyEvents(t *testing.T) {
	r := rand.New(rand.NewSource(89))
	for range 300 {
		a, b := chance(r, 6), chance(r, 6)
		got, want := slices.Collect(project.Merges(a, b)), modelMerges(a, b)
		if !slices.EqualFunc(got, want, sameEvents) {
			t.Fatalf("Merges(%v, %v): %d rows, want %d", a, b, len(got), len(want))
		}
	}
}

// TestMergesAreLeftEarly: wherever the ranging is left, nothing comes any more, and it may begin anew.
func TestMergesAreLeftEarly(t *testing.T) {
	a, b := stamped("p", 4), stamped("q", 3)
	want := modelMerges(a, b)
	all := project.Merges(a, b)
	for stop := 1; stop <= len(want); stop++ {
		n := 0
		all(func(row []api.Event) bool {
			if n >= stop || !sameEvents(row, want[n]) {
				t.Fatalf("left after %d: row %d is %v", stop, n, told(row))
			}
			n++
			return n < stop
		})
		if n != stop {
			t.Fatalf("left after %d: %d rows", stop, n)
		}
	}
}

// TestMergesWithinOneAnother: two rangings over one iterator know nothing of one another.
func TestMergesWithinOneAnother(t *testing.T) {
	a, b := stamped("p", 3), stamped("q", 2)
	want := modelMerges(a, b)
	all := project.Merges(a, b)
	n := 0
	for row := range all {
		k := 0
		for other := range all {
			if !sameEvents(other, want[k]) {
				t.Fatalf("row %d within row %d: %v", k, n, told(other))
			}
			k++
		}
		if k != len(want) || !sameEvents(row, want[n]) {
			t.Fatalf("row %d: %v, and %d within", n, told(row), k)
		}
		n++
	}
	if n != len(want) {
		t.Errorf("%d rows", n)
	}
}

// TestMergesAreMadeAsTheyAreAskedFor: of long histories a few rows are soon there.
func TestMergesAreMadeAsTheyAreAskedFor(t *testing.T) {
	for _, x := range [][2]int{{1000, 1000}, {100000, 100000}, {300000, 1}, {1, 300000}, {300000, 0}, {0, 300000}} {
		a, b := stamped("p", x[0]), stamped("q", x[1])
		n := 0
		for row := range project.Merges(a, b) {
			if len(row) != len(a)+len(b) {
				t.Fatalf("Merges of %v: %d events", x, len(row))
			}
			if n == 0 && !sameEvents(row, slices.Concat(a, b)) {
				t.Fatalf("Merges of %v: the first row is another", x)
			}
			n++
			if n == 5 {
				break
			}
		}
		if want := 5; x[0] > 0 && x[1] > 0 && n != want {
			t.Errorf("Merges of %v: %d rows", x, n)
		}
	}
}

// TestMergesOfManyRows goes through some thousands, down to where many events of the second stand ahead of the last of the first.
func TestMergesOfManyRows(t *testing.T) {
	a, b := stamped("p", 1), stamped("q", 1500)
	n := 0
	for row := range project.Merges(a, b) {
		if row[n].Proc != "p" || n > 0 && row[n-1].Proc != "q" {
			t.Fatalf("row %d is another", n)
		}
		n++
	}
	if n != 1501 {
		t.Errorf("%d rows", n)
	}
	n = 0
	for row := range project.Merges(b, a) {
		if row[1500-n].Proc != "p" {
			t.Fatalf("row %d, the other way round, is another", n)
		}
		n++
	}
	if n != 1501 {
		t.Errorf("%d rows the other way round", n)
	}
}

// P8.9

// TestMergesOfTwoObjects: a history of two objects is among the merges of its parts.
func TestMergesOfTwoObjects(t *testing.T) {
	hold := func(l []api.Event) {
		t.Helper()
		for _, names := range [][2]string{{"x", "y"}, {"y", "x"}} {
			found := false
			for row := range project.Merges(project.Object(l, names[0]), project.Object(l, names[1])) {
				if found = sameEvents(row, l); found {
					break
				}
			}
			if !found {
				t.Fatalf("%v is not among the merges of its parts", told(l))
			}
		}
	}
	r := rand.New(rand.NewSource(90))
	for range 500 {
		hold(wellFormed(r, 4, 12))
	}
	for l := range rowsOf(5, call("p"), inv("p", "y", "a", integer(1)), reply("p"), inv("q", "y", "a", integer(1)), reply("q")) {
		stray := false
		for i, ev := range l {
			stray = stray || ev.Kind == api.EvRes && modelCall(l, i) < 0
		}
		if !stray {
			hold(l)
		}
	}
}

// R3

// TestMergesAreReadAtOnce: the events are those of the moment when Merges is called.
func TestMergesAreReadAtOnce(t *testing.T) {
	a, b := stamped("p", 3), stamped("q", 3)
	want := modelMerges(copyEvents(a), copyEvents(b))
	all := project.Merges(a, b)
	spoilEvents(a)
	spoilEvents(b)
	if got := slices.Collect(all); !slices.EqualFunc(got, want, sameEvents) {
		t.Error("Merges, of events that are changed behind it:", got)
	}
	a, b = stamped("p", 3), stamped("q", 3)
	n := 0
	for row := range project.Merges(a, b) {
		if !sameEvents(row, want[n]) {
			t.Fatalf("row %d, of events that are changed in the midst: %v", n, row)
		}
		spoilEvents(a)
		spoilEvents(b)
		n++
	}
}

// TestMergesAreTheCallersOwn: no row shares memory with another, with what is to come, or with itself.
func TestMergesAreTheCallersOwn(t *testing.T) {
	v := list(tuple(integer(1)), set(symbol("b")))
	a, b := []api.Event{inv("p", "x", "a", v), res("p", v)}, []api.Event{inv("q", "x", "a", v), res("q", list(v))}
	keepA, keepB := copyEvents(a), copyEvents(b)
	want := modelMerges(keepA, keepB)
	all := project.Merges(a, b)
	for round := range 2 {
		n := 0
		for row := range all {
			if !sameEvents(row, want[n]) {
				t.Fatalf("round %d: row %d is %v", round, n, row)
			}
			for i := range row {
				spoilEvents(row[i : i+1])
				if !sameEvents(row[i+1:], want[n][i+1:]) {
					t.Fatalf("row %d: event %d shares memory with another", n, i)
				}
			}
			n++
		}
	}
	rows := slices.Collect(all)
	for i := range rows {
		_ = append(rows[i], api.Event{Proc: "spoilt"})
		spoilEvents(rows[i])
		if !slices.EqualFunc(rows[i+1:], want[i+1:], sameEvents) {
			t.Fatalf("row %d shares memory with another", i)
		}
	}
	if !sameEvents(a, keepA) || !sameEvents(b, keepB) {
		t.Error("rows share memory with what was handed in")
	}
}
