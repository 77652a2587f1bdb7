package arith_test

import (
	"math/rand"
	"testing"

	"sextant/api"
	"sextant/arith"
	"sextant/value"
)

// P5.5

// sure answers what a call gives without an error.
func sure(t *testing.T) func(api.Value, api.Errno) api.Value {
	return func(v api.Value, e api.Errno) api.Value {
		t.Helper()
		if e != api.OK {
			t.Fatal("error", e)
		}
		return v
	}
}

func TestAnswersAreRight(t *testing.T) {
	all := samples()
	r := rand.New(rand.NewSource(55))
	for range 1000 {
		a, b, c := all[r.Intn(len(all))], all[r.Intn(len(all))], all[r.Intn(len(all))]
		for what, call := range calls(a, b, c) {
			v, e := call()
			if e == api.OK && value.Check(v) != api.OK || e != api.OK && !equal(v, api.Value{}) {
				t.Fatalf("%s of %.300v, %.300v, %.300v: %.300v, %d", what, a, b, c, v, e)
			}
			if e != api.OK && e != api.ErrSort && e != api.ErrStuck {
				t.Fatalf("%s of %.300v, %.300v, %.300v: %d", what, a, b, c, e)
			}
		}
	}
}

func TestQuotientAndRemainder(t *testing.T) {
	r := rand.New(rand.NewSource(56))
	do := sure(t)
	numbers := []int64{1, -1, 2, -2, least, least + 1, greatest, greatest - 1}
	for range 20000 {
		numbers = append(numbers[:8], int64(r.Uint64())>>r.Intn(64), int64(r.Uint64())>>r.Intn(64), 0)
		a, b := integer(numbers[r.Intn(len(numbers))]), integer(numbers[r.Intn(len(numbers)-1)])
		if b.Int == 0 {
			continue
		}
		whole := do(arith.Binary("*", do(arith.Binary("/", a, b)), b))
		if got := do(arith.Binary("+", whole, do(arith.Binary("%", a, b)))); !equal(got, a) {
			t.Fatalf("%d, %d: %d", a.Int, b.Int, got.Int)
		}
	}
}

func TestSetsFallApart(t *testing.T) {
	do := sure(t)
	var all []api.Value
	for _, v := range samples() {
		if v.Kind == api.KSet {
			all = append(all, v)
		}
	}
	for _, a := range all {
		for _, b := range all {
			rest, both := do(arith.Binary("\\", a, b)), do(arith.Binary("&", a, b))
			if none := do(arith.Binary("&", rest, both)); len(none.Items) != 0 {
				t.Fatalf("%v, %v: %v in common", a, b, none)
			}
			if got := do(arith.Binary("|", rest, both)); !equal(got, a) {
				t.Fatalf("%v, %v: %v together", a, b, got)
			}
		}
	}
}

func TestNormsAndTurns(t *testing.T) {
	r := rand.New(rand.NewSource(57))
	do := sure(t)
	part := func() int64 { return (r.Int63n(1<<21+1) - 1<<20) >> r.Intn(21) }
	norm := func(z api.Value) api.Value { return do(arith.Call("norm", []api.Value{z})) }
	products := 0
	for range 20000 {
		z, w := gauss(part(), part()), gauss(part(), part())
		turned := z
		for range 4 {
			turned = do(arith.Call("turn", []api.Value{turned}))
		}
		if !equal(turned, z) {
			t.Fatalf("%v turned four times: %v", z, turned)
		}
		product, e := arith.Binary("*", z, w)
		if e != api.OK {
			continue
		}
		products++
		if !equal(norm(product), do(arith.Binary("*", norm(z), norm(w)))) {
			t.Fatalf("%v, %v: norms", z, w)
		}
	}
	if products < 1000 {
		t.Error("few products:", products)
	}
}
