package table_test

import (
	"fmt"
	"math/rand"
	"slices"
	"testing"

	"sextant/api"
	"sextant/sorts"
	"sextant/table"
	"sextant/value"
)

// P14.5

// renamed answers a row with other names of its calls, in another order, the replies too.
func renamed(rnd *rand.Rand, row api.Row) api.Row {
	names := map[string]string{}
	for i, n := range rnd.Perm(len(row.Calls)) {
		names[row.Calls[i].Who] = fmt.Sprint("n", n)
	}
	other := row
	other.Calls, other.Replies = nil, nil
	for _, i := range rnd.Perm(len(row.Calls)) {
		c := row.Calls[i]
		c.Who = names[c.Who]
		other.Calls = append(other.Calls, c)
	}
	for _, i := range rnd.Perm(len(row.Replies)) {
		r := row.Replies[i]
		r.Who = names[r.Who]
		other.Replies = append(other.Replies, r)
	}
	return other
}

func TestNamesAndOrder(t *testing.T) {
	rnd := rand.New(rand.NewSource(145))
	for range 6000 {
		a, args, _, states := chanceTable(t, rnd)
		state, class := pick(rnd, states), chanceClass(rnd, a, args)
		got, errno := looked(t, a, state, class)
		b := a
		b.Rows = nil
		for _, i := range rnd.Perm(len(a.Rows)) {
			b.Rows = append(b.Rows, renamed(rnd, a.Rows[i]))
			if rnd.Intn(4) == 0 {
				b.Rows = append(b.Rows, renamed(rnd, a.Rows[i]))
			}
		}
		if other, e := looked(t, b, state, class); e != errno || !slices.EqualFunc(got, other, sameOutcome) {
			t.Fatalf("%+v: %+v; %+v: %+v", a, got, b, other)
		}
	}
}

func TestWhatOutcomesHold(t *testing.T) {
	rnd := rand.New(rand.NewSource(1405))
	for range 6000 {
		a, args, _, states := chanceTable(t, rnd)
		reach, _ := gone(t, a)
		for _, state := range states {
			class := chanceClass(rnd, a, args)
			if a.Mode == api.MLinear {
				class = class[:1]
			}
			got, errno := looked(t, a, state, class)
			if errno != api.OK {
				t.Fatal(errno)
			}
			for i, o := range got {
				holdOutcome(t, a, class, o)
				if i > 0 && table.Compare(got[i-1], o) != -1 {
					t.Fatalf("%+v ahead of %+v", got[i-1], o)
				}
				if isAmong(reach, state) && !isAmong(reach, o.Next) {
					t.Fatalf("%+v leads from %+v out of %+v", o, state, reach)
				}
			}
		}
	}
}

func isAmong(l []api.Value, v api.Value) bool {
	_, ok := slices.BinarySearchFunc(l, v, value.Compare)
	return ok
}

// holdOutcome fails unless an outcome is of the table's sorts, and answers just those whom it may.
func holdOutcome(t *testing.T, a api.Auto, class []api.Ask, o api.Outcome) {
	t.Helper()
	var asking, answered []string
	for _, c := range class {
		asking = append(asking, c.Proc)
	}
	for _, r := range o.Answers {
		answered = append(answered, r.Proc)
		if !sorts.Fits(a.Reply, r.Value) || !slices.Contains(asking, r.Proc) {
			t.Fatalf("%+v of %+v", r, class)
		}
	}
	all := slices.Equal(asking, answered)
	if !sorts.Fits(a.State, o.Next) || !all && (a.Mode != api.MInterval || !slices.IsSorted(answered) || len(answered) == 0) {
		t.Fatalf("%+v of %+v", o, class)
	}
}
