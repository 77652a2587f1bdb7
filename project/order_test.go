package project_test

import (
	"math/rand"
	"slices"
	"testing"

	"sextant/api"
	"sextant/history"
	"sextant/project"
)

// holdOrder fails unless Alike and Keeps answer what the model does.
func holdOrder(t *testing.T, a, b []api.Event) (alike, keeps bool) {
	t.Helper()
	alike, keeps = project.Alike(a, b), project.Keeps(a, b)
	if want := modelAlike(a, b); alike != want {
		t.Fatalf("Alike(%v, %v) = %t", a, b, alike)
	}
	if want := modelKeeps(a, b); keeps != want {
		t.Fatalf("Keeps(%v, %v) = %t", a, b, keeps)
	}
	return alike, keeps
}

// P8.6

func TestAlike(t *testing.T) {
	h := example()
	other := example()
	other[3].Value = integer(7)
	deeper := []api.Event{inv("p", "x", "a", list(tuple(), set(integer(1)))), call("q")}
	for _, x := range []struct {
		why  string
		a, b []api.Event
		want bool
	}{
		{"nothing and nothing", nil, []api.Event{}, true},
		{"nothing and something", nil, h, false},
		{"itself", h, example(), true},
		{"without spots", h, at(copyEvents([]api.Event{inv("p", "x", "a", integer(1)), inv("q", "y", "b", integer(2)), res("q", integer(3)), inv("q", "x", "c", integer(4)), res("p", integer(5))}), 0, 1, 2, 3, 4), true},
		{"a response behind a call of its process", h, at(h, 0, 1, 3, 4, 2), false},
		{"processes the other way round", h, at(h, 1, 2, 3, 0, 4), true},
		{"one event less", h, h[:4], false},
		{"one process less", at(h, 0, 4), h, false},
		{"another process", []api.Event{call("p")}, []api.Event{call("q")}, false},
		{"a process more", []api.Event{call("p")}, []api.Event{call("p"), call("q")}, false},
		{"another value", h, other, false},
		{"another object", []api.Event{call("p")}, []api.Event{inv("p", "y", "a", integer(1))}, false},
		{"another operation", []api.Event{call("p")}, []api.Event{inv("p", "x", "b", integer(1))}, false},
		{"another kind", []api.Event{call("p")}, []api.Event{odd("p")}, false},
		{"events of no kind", []api.Event{odd("p"), {Proc: "q", Value: integer(1)}}, []api.Event{{Proc: "q", Value: integer(1)}, odd("p")}, true},
		{"strays", []api.Event{reply("p"), reply("q"), reply("p")}, []api.Event{reply("p"), reply("p"), reply("q")}, true},
		{"a deeper value", deeper, []api.Event{call("q"), inv("p", "x", "a", list(tuple(), set(integer(1))))}, true},
		{"a deeper value that is another", deeper, []api.Event{call("q"), inv("p", "x", "a", list(tuple(), set(integer(2))))}, false},
		{"a value that is not right", []api.Event{res("p", truth(2))}, []api.Event{res("p", truth(2))}, false},
		{"no value", []api.Event{{}}, []api.Event{{}}, false},
	} {
		if got := project.Alike(x.a, x.b); got != x.want {
			t.Errorf("Alike, %s: %t", x.why, got)
		}
		if got := project.Alike(x.b, x.a); got != x.want {
			t.Errorf("Alike, %s, the other way round: %t", x.why, got)
		}
		holdOrder(t, x.a, x.b)
	}
}

// P8.7

func TestKeeps(t *testing.T) {
	row := []api.Event{inv("p", "x", "a", integer(1)), res("p", integer(1)), inv("q", "x", "b", integer(2)), res("q", integer(2))}
	three := []api.Event{call("p"), reply("p"), call("q"), reply("q"), call("r"), reply("r")}
	pending := []api.Event{call("p"), call("q"), reply("q"), call("r")}
	twice := []api.Event{call("p"), call("p"), reply("p"), call("q")}
	strays := []api.Event{reply("p"), call("q"), call("p"), reply("p"), reply("p")}
	for _, x := range []struct {
		why         string
		a, b        []api.Event
		there, back bool
	}{
		{"nothing", nil, []api.Event{}, true, true},
		{"itself", row, row, true, true},
		{"one that lasts longer", row, at(row, 2, 0, 1, 3), false, true},
		{"one that begins at once", row, at(row, 0, 2, 1, 3), false, true},
		{"one that is turned round", row, at(row, 2, 3, 0, 1), false, false},
		{"ends in another order", at(row, 0, 2, 1, 3), at(row, 0, 2, 3, 1), true, true},
		{"calls in another order", at(row, 0, 2, 1, 3), at(row, 2, 0, 1, 3), true, true},
		{"of three the last two", three, at(three, 0, 1, 2, 4, 3, 5), false, true},
		{"of three the first two", three, at(three, 0, 2, 1, 3, 4, 5), false, true},
		{"of three the first and the last", at(three, 0, 2, 1, 4, 3, 5), at(three, 0, 2, 4, 1, 3, 5), false, true},
		{"of three the first, held against another", at(three, 0, 2, 1, 4, 3, 5), at(three, 0, 2, 3, 4, 1, 5), false, false},
		{"a pending one comes later", pending, at(pending, 1, 2, 3, 0), true, false},
		{"a pending one is preceded", pending, at(pending, 0, 1, 3, 2), false, true},
		{"a pending one precedes nothing", []api.Event{call("p"), call("q")}, []api.Event{call("q"), call("p")}, true, true},
		{"the second of two calls is done", twice, at(twice, 0, 1, 3, 2), false, true},
		{"the first of two calls is not done", twice, at(twice, 0, 3, 1, 2), false, true},
		{"a stray response precedes nothing", strays, at(strays, 1, 0, 2, 3, 4), true, true},
		{"a stray response behind", []api.Event{call("p"), reply("p"), reply("p"), call("q")}, []api.Event{call("p"), reply("p"), call("q"), reply("p")}, true, true},
		{"events of no kind precede nothing", []api.Event{odd("p"), call("q"), reply("q"), odd("p")}, []api.Event{call("q"), odd("p"), odd("p"), reply("q")}, true, true},
		{"one that is not alike", row, row[:3], false, false},
		{"values that are not right", []api.Event{res("p", truth(2))}, []api.Event{res("p", truth(2))}, false, false},
	} {
		if got := project.Keeps(x.a, x.b); got != x.there {
			t.Errorf("Keeps, %s: %t", x.why, got)
		}
		if got := project.Keeps(x.b, x.a); got != x.back {
			t.Errorf("Keeps, %s, the other way round: %t", x.why, got)
		}
		holdOrder(t, x.a, x.b)
	}
	h := example()
	if project.Keeps(h, at(h, 0, 1, 3, 4, 2)) || project.Keeps(at(h, 0, 1, 3, 4, 2), h) {
		t.Error("Keeps, of the chapter's example")
	}
}

// TestOrderOfSmallRows holds all small rows against each other.
func TestOrderOfSmallRows(t *testing.T) {
	rows := slices.Collect(rowsOf(4, call("p"), reply("p"), call("q"), reply("q"), odd("q")))
	alike, keep := 0, 0
	for _, a := range rows {
		for _, b := range rows {
			if len(a) != len(b) {
				// Unlike: each pair once is enough.
				if len(a) < 3 && (project.Alike(a, b) || project.Keeps(a, b)) {
					t.Fatalf("Alike, Keeps: %v, %v", told(a), told(b))
				}
				continue
			}
			x, y := holdOrder(t, a, b)
			if x {
				alike++
			}
			if y {
				keep++
			}
		}
	}
	if alike < 1000 || keep == alike || keep < len(rows) {
		t.Errorf("of %d rows %d pairs are alike, and %d keep", len(rows), alike, keep)
	}
}

func TestOrderOfChance(t *testing.T) {
	r := rand.New(rand.NewSource(86))
	alike, keep := 0, 0
	for range 20000 {
		a := chance(r, 14)
		if r.Intn(2) == 0 {
			a = wellFormed(r, 4, 14)
		}
		b := shuffled(r, a, r.Intn(16))
		if len(b) > 0 && r.Intn(4) == 0 {
			b[r.Intn(len(b))].Value = integer(1)
		}
		x, y := holdOrder(t, a, b)
		if x {
			alike++
		}
		if y {
			keep++
		}
	}
	if alike < 5000 || keep < 2000 || alike-keep < 2000 {
		t.Errorf("%d are alike, %d keep", alike, keep)
	}
}

// TestKeepsIsLayer7s: of well formed histories what precedes is what layer 7 says.
func TestKeepsIsLayer7s(t *testing.T) {
	r := rand.New(rand.NewSource(87))
	keep := 0
	for range 5000 {
		a := wellFormed(r, 4, 16)
		b := shuffled(r, a, r.Intn(12))
		p, _, _ := history.Make(a)
		q, _, _ := history.Make(b)
		want := true
		for i, c := range p.Calls {
			for j, d := range p.Calls {
				if history.Before(p, i, j) && !history.Before(q, alsoIn(q, p, c), alsoIn(q, p, d)) {
					want = false
				}
			}
		}
		if got := project.Keeps(a, b); got != want {
			t.Fatalf("Keeps(%v, %v) = %t", told(a), told(b), got)
		}
		if want {
			keep++
		}
	}
	if keep < 500 || keep > 4500 {
		t.Errorf("%d of 5000 keep", keep)
	}
}

// alsoIn answers the number in q of an operation of p.
func alsoIn(q, p api.Past, c api.Call) int {
	k := 0
	for _, other := range p.Calls {
		if other.Proc == c.Proc && other.Inv < c.Inv {
			k++
		}
	}
	for i, other := range q.Calls {
		if q.Procs[other.Proc] == p.Procs[c.Proc] {
			if k == 0 {
				return i
			}
			k--
		}
	}
	return -1
}

// P8.9

// TestOrderCarriesOver: Alike is an equivalence; Keeps holds of a history and itself, and carries over.
func TestOrderCarriesOver(t *testing.T) {
	hold := func(rows [][]api.Event) {
		n := len(rows)
		alike, keeps := make([][]bool, n), make([][]bool, n)
		for i, a := range rows {
			for _, b := range rows {
				alike[i], keeps[i] = append(alike[i], project.Alike(a, b)), append(keeps[i], project.Keeps(a, b))
			}
			if !alike[i][i] || !keeps[i][i] {
				t.Fatalf("unlike itself: %v", a)
			}
		}
		for i := range n {
			for j := range n {
				if alike[i][j] != alike[j][i] {
					t.Fatalf("Alike one way alone: %v, %v", rows[i], rows[j])
				}
				for k := range n {
					if alike[i][j] && alike[j][k] && !alike[i][k] || keeps[i][j] && keeps[j][k] && !keeps[i][k] {
						t.Fatalf("does not carry over: %v, %v, %v", rows[i], rows[j], rows[k])
					}
				}
			}
		}
	}
	hold(slices.Collect(rowsOf(3, call("p"), reply("p"), call("q"), reply("q"), odd("q"))))
	r := rand.New(rand.NewSource(88))
	for range 300 {
		a := wellFormed(r, 4, 12)
		rows := [][]api.Event{a}
		for range 6 {
			rows = append(rows, shuffled(r, rows[r.Intn(len(rows))], r.Intn(5)))
		}
		hold(rows)
	}
}
