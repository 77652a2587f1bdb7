package sorts_test

import (
	"math/rand"
	"testing"

	"sextant/api"
	"sextant/sorts"
	"sextant/spell"
)

// held answers the sort of an expression, and fails unless the model says the same.
func held(t *testing.T, g *gen, e api.Expr) (api.Sort, api.Fault) {
	t.Helper()
	next := 0
	place(&e, &next)
	got, f := sorted(t, e, g.names, g.sorts)
	want, fault := modelExpr(e, g.names, g.sorts)
	if f != fault || show(got) != show(want) {
		s, _ := spell.Expr(e)
		t.Fatalf("%s %+v: %s, %+v, want %s, %+v", s, e, show(got), f, show(want), fault)
	}
	return got, f
}

// P12.5, P12.6: what has a sort has a value of that sort, or is stuck, and nothing worse.
func TestExprByChance(t *testing.T) {
	rnd := rand.New(rand.NewSource(6))
	found, stuck := 0, 0
	for range 10000 {
		g, values := anyScope(rnd)
		wanted := g.someSort()
		e := g.of(wanted, rnd.Intn(5))
		s, f := held(t, g, e)
		if f.Code != api.OK || !sorts.Within(s, wanted) {
			if f.Code == api.OK || f.Code != api.ErrUnlike {
				t.Fatalf("%+v: %s, %+v", e, show(s), f)
			}
			continue // a fold within nine, or one whose scope is narrower than was thought
		}
		work := 2000
		v, c := machine{g.names, values, &work}.eval(e)
		switch {
		case c == api.ErrStuck:
			stuck++
		case c != api.OK || !sorts.Fits(s, v):
			t.Fatalf("%+v: %s, but %d, %+v", e, show(s), c, v)
		default:
			found++
		}
	}
	if found < 4000 || stuck < 400 {
		t.Error("too few:", found, stuck)
	}
}

// Spoilt expressions: faults and their places are the model's, and what is left of sorts still holds.
func TestExprSpoilt(t *testing.T) {
	rnd := rand.New(rand.NewSource(7))
	codes := map[api.Errno]int{}
	for range 20000 {
		g, values := anyScope(rnd)
		e := g.of(g.someSort(), rnd.Intn(5))
		for range 1 + rnd.Intn(2) {
			g.spoil(&e)
		}
		s, f := held(t, g, e)
		codes[f.Code]++
		if f.Code != api.OK {
			continue
		}
		work := 2000
		if v, c := (machine{g.names, values, &work}).eval(e); c != api.ErrStuck && (c != api.OK || !sorts.Fits(s, v)) {
			t.Fatalf("%+v: %s, but %d, %+v", e, show(s), c, v)
		}
	}
	if codes[api.OK] < 1000 || codes[api.ErrUnlike] < 4000 || codes[api.ErrUnknown] < 400 || len(codes) != 3 {
		t.Error(codes)
	}
}

// R4: calls know nothing of one another.
func TestExprTwice(t *testing.T) {
	rnd := rand.New(rand.NewSource(8))
	var all []func() bool
	for range 200 {
		g, _ := anyScope(rnd)
		e := g.of(g.someSort(), 3)
		if rnd.Intn(2) == 0 {
			g.spoil(&e)
		}
		s, f := sorts.Expr(e, g.names, g.sorts)
		all = append(all, func() bool {
			again, h := sorts.Expr(e, g.names, g.sorts)
			return f == h && show(again) == show(s)
		})
	}
	for i, same := range all {
		if !same() {
			t.Error(i)
		}
	}
}
