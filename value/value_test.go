package value_test

import (
	"math"
	"math/rand"
	"slices"
	"strings"
	"testing"

	"sextant/api"
	"sextant/value"
)

// P4.1

func TestCheckOfRightValues(t *testing.T) {
	for _, v := range samples() {
		if e := value.Check(v); e != api.OK {
			t.Errorf("Check(%v) = %d", v, e)
		}
	}
	for _, k := range []api.Kind{api.KBool, api.KInt, api.KGauss, api.KTuple, api.KList, api.KSet} {
		if e := value.Check(api.Value{Kind: k, Items: []api.Value{}}); e != api.OK {
			t.Errorf("kind %d with an empty list of items: %d", k, e)
		}
	}
	if e := value.Check(api.Value{Kind: api.KSym, Text: "a", Items: []api.Value{}}); e != api.OK {
		t.Errorf("a symbol with an empty list of items: %d", e)
	}
}

func TestCheckOfWrongValues(t *testing.T) {
	for why, v := range wrong() {
		if e := value.Check(v); e != api.ErrValue {
			t.Errorf("%s: %d", why, e)
		}
	}
	if api.ErrValue != 40 || api.ErrForm != 41 || api.ErrBig != 42 || api.MaxNodes != 4096 || api.MaxDeep != 16 || api.MaxPart != 1<<20 {
		t.Error("an error or a limit is another")
	}
}

func TestCheckAtTheLimits(t *testing.T) {
	for v, want := range map[string]struct {
		v api.Value
		e api.Errno
	}{
		"16 levels":                {nested(16), api.OK},
		"17 levels":                {nested(17), api.ErrValue},
		"4096 parts":               {wide(4096), api.OK},
		"4097 parts":               {wide(4097), api.ErrValue},
		"4096 parts in two lists":  {list(wide(2047), wide(2048)), api.OK},
		"4097 parts in two lists":  {list(wide(2048), wide(2048)), api.ErrValue},
		"16 levels, the last full": {list(list(), nested(15)), api.OK},
	} {
		if e := value.Check(want.v); e != want.e {
			t.Errorf("%s: %d, want %d", v, e, want.e)
		}
	}
}

// P4.2

func TestIntAndBool(t *testing.T) {
	for _, n := range []int64{0, 1, -1, 1 << 40, math.MaxInt64, math.MinInt64} {
		if v := value.Int(n); !same(v, integer(n)) || value.Check(v) != api.OK {
			t.Errorf("Int(%d) = %v", n, v)
		}
	}
	if v := value.Bool(true); !same(v, truth(1)) {
		t.Error("Bool(true):", v)
	}
	if v := value.Bool(false); !same(v, truth(0)) {
		t.Error("Bool(false):", v)
	}
}

func TestSymbol(t *testing.T) {
	for _, s := range []string{"a", "λ'", "_", "True", "true'", "falses", "x1", strings.Repeat("ω", 32)} {
		if v, e := value.Symbol(s); !same(v, symbol(s)) || e != api.OK {
			t.Errorf("Symbol(%q) = %v, %d", s, v, e)
		}
	}
	for _, s := range []string{"", "true", "false", "1a", "a b", "'a", "-", "a\xff", "×", "a\n", "#a", strings.Repeat("a", 33), strings.Repeat("ω", 33)} {
		if v, e := value.Symbol(s); !zero(v) || e != api.ErrValue {
			t.Errorf("Symbol(%q) = %v, %d", s, v, e)
		}
	}
}

func TestGauss(t *testing.T) {
	const most = 1 << 20
	ends := []int64{0, 1, -1, most, -most, most - 1, 1 - most}
	for _, re := range ends {
		for _, im := range ends {
			if v, e := value.Gauss(re, im); !same(v, gauss(re, im)) || e != api.OK {
				t.Errorf("Gauss(%d, %d) = %v, %d", re, im, v, e)
			}
		}
		for _, far := range []int64{most + 1, -most - 1, 1 << 32, 1<<32 + 1, math.MaxInt64, math.MinInt64} {
			if v, e := value.Gauss(re, far); !zero(v) || e != api.ErrBig {
				t.Errorf("Gauss(%d, %d) = %v, %d", re, far, v, e)
			}
			if v, e := value.Gauss(far, re); !zero(v) || e != api.ErrBig {
				t.Errorf("Gauss(%d, %d) = %v, %d", far, re, v, e)
			}
		}
	}
}

type maker struct {
	name string
	call func(...api.Value) (api.Value, api.Errno)
	kind api.Kind
}

func makers() []maker {
	return []maker{{"Tuple", value.Tuple, api.KTuple}, {"List", value.List, api.KList}, {"Set", value.Set, api.KSet}}
}

func TestMakingOfItems(t *testing.T) {
	r := rand.New(rand.NewSource(42))
	for range 3000 {
		var items []api.Value
		for range r.Intn(6) {
			items = append(items, chance(r, 1+r.Intn(4)))
			if r.Intn(4) == 0 {
				items = append(items, items[r.Intn(len(items))])
			}
		}
		for _, m := range makers() {
			want := api.Value{Kind: m.kind, Items: items}
			if m.kind == api.KSet {
				want.Items = modelSet(items)
			}
			if v, e := m.call(items...); !same(v, want) || e != api.OK || value.Check(v) != api.OK {
				t.Fatalf("%s of %v = %v, %d", m.name, items, v, e)
			}
		}
	}
	for _, m := range makers() {
		if v, e := m.call(); !same(v, api.Value{Kind: m.kind}) || e != api.OK {
			t.Errorf("%s of nothing: %v, %d", m.name, v, e)
		}
	}
}

func TestMakingRefusesWrongItems(t *testing.T) {
	deep := nested(16)
	for _, m := range makers() {
		for why, v := range wrong() {
			for _, items := range [][]api.Value{{v}, {integer(1), v}, {v, integer(1)}, {deep, v}, {v, v}} {
				if got, e := m.call(items...); !zero(got) || e != api.ErrValue {
					t.Errorf("%s of %s: kind %d, %d", m.name, why, got.Kind, e)
				}
			}
		}
		if got, e := m.call(append(wide(9000).Items, truth(2))...); !zero(got) || e != api.ErrValue {
			t.Errorf("%s: the wrong item behind too many right ones: %d", m.name, e)
		}
	}
}

func TestMakingAtTheLimits(t *testing.T) {
	for _, m := range makers() {
		for why, x := range map[string]struct {
			items []api.Value
			e     api.Errno
		}{
			"16 levels":         {[]api.Value{nested(15)}, api.OK},
			"17 levels":         {[]api.Value{nested(16)}, api.ErrBig},
			"17 in the midst":   {[]api.Value{integer(1), nested(16), integer(2)}, api.ErrBig},
			"4096 parts":        {wide(4096).Items, api.OK},
			"4097 parts":        {wide(4097).Items, api.ErrBig},
			"4096 in one item":  {[]api.Value{wide(4095)}, api.OK},
			"4097 in one item":  {[]api.Value{wide(4096)}, api.ErrBig},
			"4096 in two items": {[]api.Value{wide(2047), wide(2048)}, api.OK},
			"4097 in two items": {[]api.Value{wide(2047), wide(2049)}, api.ErrBig},
			"50000 parts":       {wide(50000).Items, api.ErrBig},
		} {
			v, e := m.call(x.items...)
			if e != x.e || e != api.OK && !zero(v) || e == api.OK && value.Check(v) != api.OK {
				t.Errorf("%s, %s: %d, want %d", m.name, why, e, x.e)
			}
		}
	}
}

func TestSetIsMeasuredBehindTheSorting(t *testing.T) {
	often := slices.Repeat([]api.Value{integer(3), integer(1)}, 5000)
	if v, e := value.Set(often...); !same(v, set(integer(1), integer(3))) || e != api.OK {
		t.Errorf("Set of 10000 items, two of them different: %d", e)
	}
	if v, e := value.Set(wide(3000), wide(3000), wide(3000)); !same(v, set(wide(3000))) || e != api.OK {
		t.Errorf("Set of a large item thrice: %d", e)
	}
	if _, e := value.List(often...); e != api.ErrBig {
		t.Errorf("List of the same: %d", e)
	}
	if v, e := value.Set(value.Int(3), value.Int(1), value.Int(3)); !same(v, set(integer(1), integer(3))) || e != api.OK {
		t.Errorf("Set(3, 1, 3) = %v, %d", v, e)
	}
}

// P4.3

func sign(n int) int { return max(-1, min(n, 1)) }

func TestCompareOfRightValues(t *testing.T) {
	l := samples()
	r := rand.New(rand.NewSource(43))
	for range 100000 {
		a, b := l[r.Intn(len(l))], l[r.Intn(len(l))]
		if got, want := value.Compare(a, b), sign(modelCompare(a, b)); got != want {
			t.Fatalf("Compare(%v, %v) = %d, want %d", a, b, got, want)
		}
	}
	some := edges()
	for _, a := range some {
		for _, b := range some {
			if got, want := value.Compare(a, b), sign(modelCompare(a, b)); got != want {
				t.Fatalf("Compare(%v, %v) = %d, want %d", a, b, got, want)
			}
		}
	}
}

func TestCompareOfARow(t *testing.T) {
	rise := []string{
		"false", "true", "-9223372036854775808", "-9", "9", "10", "9223372036854775807",
		"-1048576+1048576i", "-1-1i", "-1+0i", "0+1i", "1-1i", "1048576-1048576i",
		"Z", "_", "a", "aa", "b", "é", "λ", "()", "(5,)", "(1, 1)", "(1, 2)", "(2, 1)", "(1, 1, 1)",
		"[]", "[9]", "[[]]", "[false, false]", "{}", "{9}", "{1, 2}", "{1, 3}", "{2, 3}", "{1, 2, 3}",
	}
	for i, a := range rise {
		for k, b := range rise {
			if got := value.Compare(parsed(t, a), parsed(t, b)); got != sign(i-k) {
				t.Errorf("Compare(%s, %s) = %d", a, b, got)
			}
		}
	}
}

func TestCompareOfWrongValues(t *testing.T) {
	for why, v := range wrong() {
		for _, x := range []api.Value{truth(0), integer(1), nested(16), wide(4096), set(integer(1))} {
			if value.Compare(x, v) != -1 || value.Compare(v, x) != 1 {
				t.Errorf("%s: does not come behind", why)
			}
		}
		for other, w := range wrong() {
			if value.Compare(v, w) != 0 {
				t.Errorf("%s, %s: not alike", why, other)
			}
		}
	}
}

// P4.4

func TestParts(t *testing.T) {
	for _, v := range samples() {
		want, deep := modelParts(v)
		got := slices.Collect(value.Parts(v))
		if !slices.EqualFunc(got, want, same) {
			t.Fatalf("Parts(%v) = %v", v, got)
		}
		if value.Nodes(v) != len(want) || value.Deep(v) != deep {
			t.Fatalf("Nodes, Deep of %v: %d, %d", v, value.Nodes(v), value.Deep(v))
		}
	}
	if value.Nodes(wide(4096)) != 4096 || value.Deep(nested(16)) != 16 || value.Deep(tuple()) != 1 || value.Deep(tuple(integer(1))) != 2 {
		t.Error("Nodes, Deep at the limits")
	}
	l := slices.Collect(value.Parts(parsed(t, "[(1, 2), {3}]")))
	want := []api.Value{list(tuple(integer(1), integer(2)), set(integer(3))), tuple(integer(1), integer(2)), integer(1), integer(2), set(integer(3)), integer(3)}
	if !slices.EqualFunc(l, want, same) {
		t.Error("Parts:", l)
	}
}

func TestPartsOfWrongValues(t *testing.T) {
	for why, v := range wrong() {
		for range value.Parts(v) {
			t.Errorf("%s: has a part", why)
			break
		}
		if value.Nodes(v) != 0 || value.Deep(v) != 0 {
			t.Errorf("%s: Nodes %d, Deep %d", why, value.Nodes(v), value.Deep(v))
		}
	}
}

func TestPartsMayBeLeftAndGoneThroughAgain(t *testing.T) {
	v := parsed(t, "[(1, 2), {3}, [[4]]]")
	want := slices.Collect(value.Parts(v))
	parts := value.Parts(v)
	for stop := range want {
		n := 0
		for p := range parts {
			if !same(p, want[n]) {
				t.Errorf("part %d: %v", n, p)
			}
			if n == stop {
				break
			}
			n++
		}
		if n != stop {
			t.Errorf("left at %d, not at %d", n, stop)
		}
	}
	if got := slices.Collect(parts); !slices.EqualFunc(got, want, same) {
		t.Error("gone through again:", got)
	}
}

// R3

// spoil changes all memory that a value holds.
func spoil(v api.Value) {
	for i := range v.Items {
		spoil(v.Items[i])
		v.Items[i] = api.Value{Kind: 99}
	}
}

func TestPartsAreTheCallersOwn(t *testing.T) {
	v := parsed(t, "[(1, 2), {3}, [[4]]]")
	keep := deepCopy(v)
	want, _ := modelParts(keep)
	parts := value.Parts(v)
	spoil(v)
	for range 2 {
		n := 0
		for p := range parts {
			if !same(p, want[n]) {
				t.Fatalf("part %d: %v", n, p)
			}
			spoil(p)
			n++
		}
		if n != len(want) {
			t.Fatalf("%d parts", n)
		}
	}
	v = deepCopy(keep)
	for p := range value.Parts(v) {
		spoil(p)
	}
	if !same(v, keep) {
		t.Error("the value is another")
	}
}

func TestMakingKeepsNothingOfItsItems(t *testing.T) {
	for _, m := range makers() {
		items := []api.Value{list(integer(2), tuple(integer(5))), list(integer(1), tuple(integer(4))), list(integer(2), tuple(integer(5)))}
		items = append(items, items[0])
		keep := deepCopy(list(items...))
		v, e := m.call(items...)
		if e != api.OK || !same(list(items...), keep) {
			t.Fatalf("%s has changed its items: %v, %d", m.name, items, e)
		}
		want := deepCopy(v)
		spoil(list(items...))
		if !same(v, want) {
			t.Errorf("%s shares memory with its items", m.name)
		}
	}
	one := list(integer(1))
	v, _ := value.Tuple(one, one)
	spoil(v.Items[0])
	if !same(v.Items[1], list(integer(1))) {
		t.Error("two items of an answer share memory")
	}
}

func TestNothingHandedInIsChanged(t *testing.T) {
	all := samples()[:400]
	for why, v := range wrong() {
		if !strings.Contains(why, "itself") && !strings.Contains(why, "60^15") {
			all = append(all, v)
		}
	}
	for _, v := range all {
		keep := deepCopy(v)
		value.Check(v)
		value.Compare(v, v)
		value.Nodes(v)
		value.Deep(v)
		value.Encode(v)
		value.Print(v)
		value.Set(v, v)
		value.Tuple(v)
		for range value.Parts(v) {
		}
		if !same(v, keep) {
			t.Fatalf("%v was changed to %v", keep, v)
		}
	}
}

// P4.9

func TestWhatFollows(t *testing.T) {
	for _, v := range samples() {
		s, e := value.Print(v)
		if w, f := value.Parse(s); e != api.OK || f != (api.Fault{}) || !same(w, v) || value.Check(w) != api.OK {
			t.Fatalf("Parse(Print(%v)) = %v, %+v by %q", v, w, f, s)
		}
		b, e := value.Encode(v)
		if w, n, d := value.Decode(b); e != api.OK || d != api.OK || n != len(b) || !same(w, v) || value.Check(w) != api.OK {
			t.Fatalf("Decode(Encode(%v)) = %v, %d, %d", v, w, n, d)
		}
		if value.Compare(v, v) != 0 {
			t.Fatalf("%v is not like itself", v)
		}
	}
}

func TestCompareIsATotalOrder(t *testing.T) {
	l := samples()
	r := rand.New(rand.NewSource(49))
	for range 50000 {
		a, b, c := l[r.Intn(len(l))], l[r.Intn(len(l))], l[r.Intn(len(l))]
		if value.Compare(a, b) != -value.Compare(b, a) {
			t.Fatalf("%v, %v: not turned round", a, b)
		}
		if value.Compare(a, b) <= 0 && value.Compare(b, c) <= 0 && value.Compare(a, c) > 0 {
			t.Fatalf("%v, %v, %v: not carried over", a, b, c)
		}
		if (value.Compare(a, b) == 0) != same(a, b) {
			t.Fatalf("%v, %v: alike, and not the same", a, b)
		}
	}
}
