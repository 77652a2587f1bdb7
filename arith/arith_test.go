package arith_test

import (
	"math"
	"math/rand"
	"slices"
	"testing"

	"sextant/api"
	"sextant/arith"
	"sextant/value"
)

const (
	least    = math.MinInt64
	greatest = math.MaxInt64
)

// read answers the value of a text.
func read(t *testing.T, s string) api.Value {
	t.Helper()
	v, f := value.Parse(s)
	if f != (api.Fault{}) {
		t.Fatalf("Parse(%q): %+v", s, f)
	}
	return v
}

// hold fails unless a call answered what was wanted, and nothing beside an error.
func hold(t *testing.T, v api.Value, e api.Errno, want api.Value, wantE api.Errno, what ...any) {
	t.Helper()
	if e != wantE || !equal(v, want) {
		t.Fatalf("%v: %.300v, %d, want %.300v, %d", what, v, e, want, wantE)
	}
}

func TestErrorNumbers(t *testing.T) {
	if api.ErrArg != 2 || api.ErrStuck != 50 || api.ErrSort != 51 || api.MaxSub != 10 {
		t.Error("an error or a limit is another")
	}
}

// P5.1

func TestUnary(t *testing.T) {
	for _, x := range []struct {
		op   string
		v, w api.Value
		e    api.Errno
	}{
		{"-", integer(5), integer(-5), api.OK},
		{"-", integer(0), integer(0), api.OK},
		{"-", integer(greatest), integer(-greatest), api.OK},
		{"-", integer(least), integer(least), api.OK},
		{"-", gauss(3, -4), gauss(-3, 4), api.OK},
		{"-", gauss(0, 0), gauss(0, 0), api.OK},
		{"-", gauss(1<<20, -1<<20), gauss(-1<<20, 1<<20), api.OK},
		{"not", truth(true), truth(false), api.OK},
		{"not", truth(false), truth(true), api.OK},
		{"not", integer(1), api.Value{}, api.ErrSort},
		{"not", integer(0), api.Value{}, api.ErrSort},
		{"-", truth(true), api.Value{}, api.ErrSort},
		{"-", symbol("a"), api.Value{}, api.ErrSort},
		{"-", list(integer(1)), api.Value{}, api.ErrSort},
		{"-", set(), api.Value{}, api.ErrSort},
		{"+", integer(1), api.Value{}, api.ErrSort},
		{"", truth(true), api.Value{}, api.ErrSort},
	} {
		v, e := arith.Unary(x.op, x.v)
		hold(t, v, e, x.w, x.e, x.op, x.v)
	}
}

func TestUnaryOfAll(t *testing.T) {
	for _, op := range slices.Concat(operators(), strangers()) {
		for _, v := range samples() {
			got, e := arith.Unary(op, v)
			want, wantE := modelUnary(op, v)
			hold(t, got, e, want, wantE, op, v)
		}
		for why, v := range wrong() {
			got, e := arith.Unary(op, v)
			hold(t, got, e, api.Value{}, api.ErrArg, op, why)
		}
	}
}

// P5.2

func TestBinaryOfIntegers(t *testing.T) {
	for _, x := range []struct {
		op   string
		a, b int64
		w    int64
		e    api.Errno
	}{
		{"+", greatest, 1, least, api.OK},
		{"+", least, least, 0, api.OK},
		{"-", least, 1, greatest, api.OK},
		{"-", 0, least, least, api.OK},
		{"*", greatest, greatest, 1, api.OK},
		{"*", least, -1, least, api.OK},
		{"*", 1 << 32, 1 << 32, 0, api.OK},
		{"/", 7, 2, 3, api.OK},
		{"/", -7, 2, -3, api.OK},
		{"/", 7, -2, -3, api.OK},
		{"/", -7, -2, 3, api.OK},
		{"%", 7, 2, 1, api.OK},
		{"%", -7, 2, -1, api.OK},
		{"%", 7, -2, 1, api.OK},
		{"%", -7, -2, -1, api.OK},
		{"/", least, -1, least, api.OK},
		{"%", least, -1, 0, api.OK},
		{"/", least, 1, least, api.OK},
		{"/", 1, least, 0, api.OK},
		{"%", 1, least, 1, api.OK},
		{"/", 1, 0, 0, api.ErrStuck},
		{"%", 1, 0, 0, api.ErrStuck},
		{"/", 0, 0, 0, api.ErrStuck},
		{"%", least, 0, 0, api.ErrStuck},
	} {
		want := integer(x.w)
		if x.e != api.OK {
			want = api.Value{}
		}
		v, e := arith.Binary(x.op, integer(x.a), integer(x.b))
		hold(t, v, e, want, x.e, x.op, x.a, x.b)
	}
}

func TestBinaryOfTexts(t *testing.T) {
	for _, x := range []struct {
		op, a, b string
		want     string // of no text: ErrSort; "-": ErrStuck
	}{
		{"*", "0+1i", "0+1i", "-1+0i"},
		{"*", "1048576+0i", "2+0i", "-"},
		{"*", "1048576+0i", "-1+0i", "-1048576+0i"},
		{"*", "1048576+1048576i", "1+1i", "-"},
		{"*", "1024+0i", "0+1024i", "0+1048576i"},
		{"*", "1024+0i", "0-1025i", "-"},
		{"*", "1048576+1048576i", "1048576-1048576i", "-"},
		{"+", "1048575-1i", "1+1i", "1048576+0i"},
		{"+", "1048576+0i", "1+0i", "-"},
		{"+", "0-1048576i", "0-1i", "-"},
		{"-", "0+0i", "3-4i", "-3+4i"},
		{"-", "-1048576+0i", "1+0i", "-"},
		{"-", "0+1048576i", "0-1i", "-"},
		{"/", "1+0i", "1+0i", ""},
		{"%", "1+0i", "1+0i", ""},
		{"+", "1+0i", "1", ""},
		{"+", "[1]", "[2, 1]", "[1, 2, 1]"},
		{"+", "[]", "[]", "[]"},
		{"+", "[]", "[a]", "[a]"},
		{"-", "[1]", "[1]", ""},
		{"*", "[1]", "[1]", ""},
		{"+", "[1]", "{1}", ""},
		{"+", "{1}", "{2}", ""},
		{"+", "(1,)", "(2,)", ""},
		{"+", "a", "b", ""},
		{"+", "true", "true", ""},
		{"and", "true", "true", "true"},
		{"and", "true", "false", "false"},
		{"and", "false", "true", "false"},
		{"and", "false", "false", "false"},
		{"or", "true", "true", "true"},
		{"or", "true", "false", "true"},
		{"or", "false", "true", "true"},
		{"or", "false", "false", "false"},
		{"and", "false", "1", ""},
		{"or", "true", "1", ""},
		{"or", "1", "true", ""},
		{"and", "1", "1", ""},
		{"in", "3", "{1, 3}", "true"},
		{"in", "2", "{1, 3}", "false"},
		{"in", "3", "[4, 3, 4]", "true"},
		{"in", "true", "[1]", "false"},
		{"in", "1", "[true]", "false"},
		{"in", "[]", "[[], 1]", "true"},
		{"in", "{}", "[[], 1]", "false"},
		{"in", "[1]", "[1]", "false"},
		{"in", "1+0i", "[1]", "false"},
		{"in", "1-2i", "[1+2i]", "false"},
		{"in", "a", "{}", "false"},
		{"in", "(1, [2])", "[(1, [3]), (1, [2])]", "true"},
		{"in", "1", "(1, 2)", ""},
		{"in", "1", "1", ""},
		{"in", "a", "a", ""},
		{"in", "[1]", "2", ""},
		{"|", "{1, 3}", "{2, 3}", "{1, 2, 3}"},
		{"&", "{1, 3}", "{2, 3}", "{3}"},
		{"\\", "{1, 3}", "{3}", "{1}"},
		{"\\", "{1, 3}", "{}", "{1, 3}"},
		{"\\", "{}", "{1, 3}", "{}"},
		{"&", "{1, 3}", "{}", "{}"},
		{"|", "{}", "{}", "{}"},
		{"|", "{a}", "{true, 1}", "{true, 1, a}"},
		{"&", "{[], {}, ()}", "{(), {1}, {}}", "{(), {}}"},
		{"|", "[1]", "[2]", ""},
		{"&", "[1]", "[1]", ""},
		{"\\", "[1]", "[1]", ""},
		{"|", "1", "2", ""},
		{"|", "{1}", "[1]", ""},
	} {
		want, wantE := api.Value{}, api.ErrSort
		switch x.want {
		case "":
		case "-":
			wantE = api.ErrStuck
		default:
			want, wantE = read(t, x.want), api.OK
		}
		v, e := arith.Binary(x.op, read(t, x.a), read(t, x.b))
		hold(t, v, e, want, wantE, x.a, x.op, x.b)
	}
}

// TestComparisons: each row rises; values of two kinds are not compared.
func TestComparisons(t *testing.T) {
	for _, rise := range [][]string{
		{"false", "true"},
		{"-9223372036854775808", "-9", "9", "10", "9223372036854775807"},
		{"-1+5i", "0-1i", "0+1i", "1-1i"},
		{"Z", "a", "aa", "b", "λ"},
		{"()", "(true,)", "(5,)", "(1, 1)", "(1, 2)"},
		{"[]", "[9]", "[1, 1]", "[1, a]"},
		{"{}", "{9}", "{1, 2}", "{1, 3}"},
	} {
		for i, a := range rise {
			for k, b := range rise {
				for op, want := range map[string]bool{"==": i == k, "!=": i != k, "<": i < k, "<=": i <= k, ">": i > k, ">=": i >= k} {
					v, e := arith.Binary(op, read(t, a), read(t, b))
					hold(t, v, e, truth(want), api.OK, a, op, b)
				}
			}
		}
	}
	for _, a := range few() {
		for _, b := range few() {
			for _, op := range []string{"==", "!=", "<", "<=", ">", ">="} {
				if _, e := arith.Binary(op, a, b); (e == api.OK) != (a.Kind == b.Kind) || e != api.OK && e != api.ErrSort {
					t.Errorf("%v %s %v: %d", a, op, b, e)
				}
			}
		}
	}
}

func TestBinaryOfAll(t *testing.T) {
	all := samples()
	for _, op := range operators() {
		for _, a := range all {
			for _, b := range all {
				if len(a.Items)*len(b.Items) > 1<<20 && op != "+" && op != "|" {
					continue // the model would take too long; TestGreatSets has them
				}
				got, e := arith.Binary(op, a, b)
				want, wantE := modelBinary(op, a, b)
				hold(t, got, e, want, wantE, a, op, b)
			}
		}
	}
	for _, op := range strangers() {
		for _, a := range few() {
			for _, b := range few() {
				got, e := arith.Binary(op, a, b)
				hold(t, got, e, api.Value{}, api.ErrSort, a, op, b)
			}
		}
	}
}

func TestBinaryOfChance(t *testing.T) {
	r := rand.New(rand.NewSource(52))
	items := append(few(), numbers(-3, 7)...)
	row := func(kind api.Kind) api.Value {
		var l []api.Value
		for range r.Intn(6) {
			l = append(l, items[r.Intn(len(items))])
		}
		if kind == api.KSet {
			l = sorted(l)
		}
		return api.Value{Kind: kind, Items: l}
	}
	for range 20000 {
		number := func() api.Value { return integer(int64(r.Uint64()) >> r.Intn(64)) }
		part := func() int64 { return (r.Int63n(1<<21+1) - 1<<20) >> r.Intn(21) }
		for _, pair := range [][2]api.Value{
			{number(), number()}, {gauss(part(), part()), gauss(part(), part())},
			{row(api.KList), row(api.KList)}, {row(api.KSet), row(api.KSet)}, {row(api.KTuple), row(api.KTuple)},
		} {
			op := operators()[r.Intn(len(operators()))]
			got, e := arith.Binary(op, pair[0], pair[1])
			want, wantE := modelBinary(op, pair[0], pair[1])
			hold(t, got, e, want, wantE, pair[0], op, pair[1])
		}
	}
}

// TestGreatSets: of sets at the limits, too, what is in both is found.
func TestGreatSets(t *testing.T) {
	a, b := set(numbers(0, 4095)...), set(numbers(4000, 4095)...)
	for op, want := range map[string]api.Value{"&": set(numbers(4000, 95)...), "\\": set(numbers(0, 4000)...)} {
		v, e := arith.Binary(op, a, b)
		hold(t, v, e, want, api.OK, op)
	}
	v, e := arith.Binary("|", a, b)
	hold(t, v, e, api.Value{}, api.ErrStuck, "|")
	v, e = arith.Binary("|", a, a)
	hold(t, v, e, a, api.OK, "| of a set and itself")
}

func TestBinaryOfWrongValues(t *testing.T) {
	for why, v := range wrong() {
		for _, op := range slices.Concat(operators(), strangers()) {
			for _, w := range few() {
				got, e := arith.Binary(op, v, w)
				hold(t, got, e, api.Value{}, api.ErrArg, why, op, w)
				got, e = arith.Binary(op, w, v)
				hold(t, got, e, api.Value{}, api.ErrArg, w, op, why)
			}
			got, e := arith.Binary(op, v, v)
			hold(t, got, e, api.Value{}, api.ErrArg, why, op, why)
		}
	}
}

// P5.4

func TestField(t *testing.T) {
	pair, deep := tuple(integer(1), truth(true)), tuple(nested(15))
	for _, x := range []struct {
		v api.Value
		i int
		w api.Value
		e api.Errno
	}{
		{pair, 0, integer(1), api.OK},
		{pair, 1, truth(true), api.OK},
		{pair, 2, api.Value{}, api.ErrStuck},
		{pair, -1, api.Value{}, api.ErrStuck},
		{pair, math.MaxInt, api.Value{}, api.ErrStuck},
		{pair, math.MinInt, api.Value{}, api.ErrStuck},
		{pair, 1 << 32, api.Value{}, api.ErrStuck},
		{tuple(), 0, api.Value{}, api.ErrStuck},
		{deep, 0, nested(15), api.OK},
		{tuple(numbers(0, 4095)...), 4094, integer(4094), api.OK},
		{tuple(numbers(0, 4095)...), 4095, api.Value{}, api.ErrStuck},
	} {
		v, e := arith.Field(x.v, x.i)
		hold(t, v, e, x.w, x.e, x.v, x.i)
	}
	for _, i := range []int{-1, 0, 1, 9} {
		for _, v := range few() {
			if v.Kind != api.KTuple {
				got, e := arith.Field(v, i)
				hold(t, got, e, api.Value{}, api.ErrSort, v, i)
			}
		}
		for why, v := range wrong() {
			got, e := arith.Field(v, i)
			hold(t, got, e, api.Value{}, api.ErrArg, why, i)
		}
	}
}
