package sorts_test

import (
	"fmt"
	"math/rand"
	"slices"
	"testing"

	"sextant/api"
	"sextant/sorts"
	"sextant/value"
)

// P12.1

func TestSort(t *testing.T) {
	for _, s := range soAll("int", "bool", "symbol", "gauss", "()", "(int,)", "(int, (), set gauss)", "list set (symbol, bool)") {
		if !sorts.Sort(s) {
			t.Error(show(s))
		}
	}
	for _, s := range soAll("?", "list ?", "set ?", "(int, ?)", "list (int, set (?,))") {
		if sorts.Sort(s) {
			t.Error(show(s), "has SNone")
		}
	}
	for _, s := range wrongSorts() {
		if sorts.Sort(s) || sorts.Sort(listOf(s)) || sorts.Sort(tupleOf(so("int"), s)) {
			t.Error(show(s))
		}
	}
}

// wrongSorts answers sorts that may not be, and neither may any that they are items of.
func wrongSorts() []api.Sort {
	list := []api.Sort{
		sortOf(-1), sortOf(8), sortOf(-1<<62, so("int")), sortOf(9, so("int")),
		sortOf(api.SList), sortOf(api.SSet), sortOf(api.SList, so("int"), so("int")), sortOf(api.SSet, so("int"), so("int")),
		tupleOf(so("int"), sortOf(8)), listOf(sortOf(api.SSet)),
	}
	for kind := api.SNone; kind <= api.SGauss; kind++ {
		list = append(list, sortOf(kind, so("int")), sortOf(kind, sortOf(api.SNone)))
	}
	return list
}

func TestSortAtTheLimits(t *testing.T) {
	for _, x := range []struct {
		sort api.Sort
		want bool
	}{
		{nested(63, so("int")), true},
		{nested(64, so("int")), false},
		{nested(62, so("(int,)")), true},
		{nested(63, so("(int,)")), false},
		{nested(63, so("()")), true},
		{nested(64, so("()")), false},
		{tupleOf(so("int"), nested(62, so("int")), so("int")), true},
		{tupleOf(so("int"), nested(63, so("int")), so("int")), false},
		{wide(4095, so("int")), true},
		{wide(4096, so("int")), false},
		{wide(2047, so("list int")), true},
		{tupleOf(wide(2047, so("list int")).Items[0], wide(4093, so("int"))), false},
		{wide(2048, so("list int")), false},
		{listOf(wide(4094, so("int"))), true},
		{listOf(wide(4095, so("int"))), false},
		{nested(62, wide(4033, so("int"))), true},
		{nested(62, wide(4034, so("int"))), false},
	} {
		if got := sorts.Sort(x.sort); got != x.want || got != modelRight(x.sort) {
			t.Errorf("%d levels, %d parts: %t", countLevels(x.sort), countParts(x.sort), got)
		}
		if got := sorts.Within(x.sort, x.sort); got != x.want {
			t.Errorf("Within: %d levels, %d parts: %t", countLevels(x.sort), countParts(x.sort), got)
		}
		if s, ok := sorts.Join(x.sort, sortOf(api.SNone)); ok != x.want || ok && show(s) != show(x.sort) {
			t.Errorf("Join: %d levels, %d parts: %t", countLevels(x.sort), countParts(x.sort), ok)
		}
	}
}

func TestSortByChance(t *testing.T) {
	rnd := rand.New(rand.NewSource(1))
	for range 20000 {
		s := anySort(rnd, api.SNone, 3)
		if rnd.Intn(3) == 0 {
			s = spoiltSort(rnd, s)
		}
		if got := sorts.Sort(s); got != modelRight(s) {
			t.Fatal(show(s), got)
		}
	}
}

// spoiltSort changes a kind or a list by chance.
func spoiltSort(rnd *rand.Rand, s api.Sort) api.Sort {
	if len(s.Items) > 0 && rnd.Intn(2) == 0 {
		i := rnd.Intn(len(s.Items))
		s.Items[i] = spoiltSort(rnd, s.Items[i])
		return s
	}
	switch rnd.Intn(3) {
	case 0:
		s.Kind = api.SortKind(rnd.Intn(11) - 1)
	case 1:
		s.Items = append(s.Items, so("int"))
	case 2:
		s.Items = nil
	}
	return s
}

// P12.2

func TestFits(t *testing.T) {
	values := map[string]api.Value{
		"int": integer(-5), "bool": boolean(1), "symbol": sym("a"), "gauss": gauss(1, -1), "()": rowOf(api.KTuple),
		"(int,)": rowOf(api.KTuple, integer(1)), "list int": rowOf(api.KList, integer(2), integer(1), integer(2)), "set int": rowOf(api.KSet, integer(1), integer(2)),
		"(int, bool)": rowOf(api.KTuple, integer(1), boolean(1)), "(bool, int)": rowOf(api.KTuple, boolean(1), integer(1)),
		"list list gauss": rowOf(api.KList, rowOf(api.KList), rowOf(api.KList, gauss(0, 0))),
	}
	for of, v := range values {
		for other := range values {
			if got := sorts.Fits(so(other), v); got != (of == other) {
				t.Errorf("%s: a value of %s: %t", other, of, got)
			}
		}
		if sorts.Fits(so("?"), v) {
			t.Error("of SNone:", of)
		}
	}
	empty := rowOf(api.KList)
	for s, want := range map[string]bool{"list ?": true, "list int": true, "list (?, list ?)": true, "set ?": false, "()": false} {
		if got := sorts.Fits(so(s), empty); got != want {
			t.Error("the empty list:", s, got)
		}
	}
	for s, want := range map[string]bool{"set ?": true, "set set symbol": true, "list ?": false} {
		if got := sorts.Fits(so(s), rowOf(api.KSet)); got != want {
			t.Error("the empty set:", s, got)
		}
	}
}

func TestFitsOfWrongThings(t *testing.T) {
	for _, v := range wrongValues() {
		for _, s := range soAll("int", "bool", "symbol", "gauss", "()", "(int, int)", "list ?", "list int", "set int") {
			if sorts.Fits(s, v) {
				t.Errorf("%s: %+v", show(s), v)
			}
		}
	}
	// What the value never comes to may be wrong as well.
	for _, s := range wrongSorts() {
		if sorts.Fits(listOf(s), rowOf(api.KList)) || sorts.Fits(s, integer(1)) || sorts.Fits(s, rowOf(api.KList)) {
			t.Error(show(s))
		}
	}
	if sorts.Fits(nested(64, so("int")), rowOf(api.KList)) || !sorts.Fits(nested(63, so("int")), rowOf(api.KList)) {
		t.Error("levels")
	}
	if sorts.Fits(listOf(wide(4095, so("int"))), rowOf(api.KList)) || !sorts.Fits(listOf(wide(4094, so("int"))), rowOf(api.KList)) {
		t.Error("parts")
	}
}

func wrongValues() []api.Value {
	return []api.Value{
		{}, {Kind: 8}, {Kind: -1}, boolean(2), sym(""), sym("true"), sym("a b"), gauss(api.MaxPart+1, 0),
		{Kind: api.KInt, Im: 1}, {Kind: api.KInt, Text: "a"}, {Kind: api.KInt, Items: []api.Value{integer(1)}},
		{Kind: api.KList, Int: 1}, rowOf(api.KList, boolean(3)), rowOf(api.KSet, integer(2), integer(1)), rowOf(api.KSet, integer(1), integer(1)),
		rowOf(api.KList, slices.Repeat([]api.Value{integer(1)}, 4096)...), selfValue(),
	}
}

// selfValue answers a list that is its own item.
func selfValue() api.Value {
	v := rowOf(api.KList, api.Value{})
	v.Items[0] = v
	return v
}

func TestFitsByChance(t *testing.T) {
	rnd := rand.New(rand.NewSource(2))
	fit := 0
	for range 30000 {
		s, v := anySort(rnd, api.SNone, 3), anyValue(rnd, 3)
		switch rnd.Intn(3) {
		case 0:
			s, _ = sorts.Of(v)
			s = widened(rnd, s)
		case 1:
			s = anySort(rnd, api.SInt, 3)
			v = anyOf(rnd, s)
			s = widened(rnd, s)
		}
		got := sorts.Fits(s, v)
		if got != modelFits(s, v) {
			t.Fatalf("%s, %+v: %t", show(s), v, got)
		}
		if got {
			fit++
		}
	}
	if fit < 10000 || fit > 25000 {
		t.Error("too few of one kind:", fit)
	}
}

// widened changes a sort by chance, SNone most of all: what comes is another one, or the same.
func widened(rnd *rand.Rand, s api.Sort) api.Sort {
	if s.Kind == api.SNone && rnd.Intn(2) == 0 || rnd.Intn(20) == 0 {
		return anySort(rnd, api.SNone, 1)
	}
	var items []api.Sort
	for _, item := range s.Items {
		items = append(items, widened(rnd, item))
	}
	return sortOf(s.Kind, items...)
}

// P12.3

func TestWithinAndJoin(t *testing.T) {
	for _, x := range []struct{ a, b, join string }{
		{"list ?", "list int", "list int"},
		{"int", "int", "int"},
		{"int", "bool", ""},
		{"int", "gauss", ""},
		{"?", "?", "?"},
		{"?", "(int, set ?)", "(int, set ?)"},
		{"(int, ?)", "(?, bool)", "(int, bool)"},
		{"(int, ?)", "(?,)", ""},
		{"()", "()", "()"},
		{"()", "(?,)", ""},
		{"list ?", "set ?", ""},
		{"list int", "list bool", ""},
		{"list (int, list ?)", "list (?, list list symbol)", "list (int, list list symbol)"},
		{"(list ?, list int)", "(list int, list ?)", "(list int, list int)"},
		{"(list ?, list int)", "(list int, list bool)", ""},
	} {
		a, b := so(x.a), so(x.b)
		for range 2 {
			got, ok := sorts.Join(a, b)
			if ok != (x.join != "") || ok && show(got) != show(so(x.join)) || !ok && show(got) != "0 []" {
				t.Errorf("Join(%s, %s): %s, %t", show(a), show(b), show(got), ok)
			}
			fresh(t, got, a, b)
			if got := sorts.Within(a, b); got != (x.join != "" && show(b) == show(so(x.join))) {
				t.Errorf("Within(%s, %s): %t", show(a), show(b), got)
			}
			a, b = b, a
		}
	}
}

func TestWithinAndJoinOfWrongSorts(t *testing.T) {
	for _, s := range wrongSorts() {
		for _, other := range []api.Sort{s, so("?"), so("int"), so("list ?"), so("(int, int)"), listOf(s)} {
			for _, x := range [][2]api.Sort{{s, other}, {other, s}} {
				if sorts.Within(x[0], x[1]) {
					t.Error("Within:", show(x[0]), show(x[1]))
				}
				if got, ok := sorts.Join(x[0], x[1]); ok || show(got) != "0 []" {
					t.Error("Join:", show(x[0]), show(x[1]))
				}
			}
		}
	}
}

// A join that would have too many parts is none: no sort that may be has both within it.
func TestJoinThatMayNotBe(t *testing.T) {
	none, great := so("?"), wide(2000, so("int"))
	for parts, want := range map[int]bool{2093: true, 2094: false} {
		other := wide(parts, so("int"))
		a, b := tupleOf(great, none), tupleOf(none, other)
		got, ok := sorts.Join(a, b)
		if ok != want || ok && show(got) != show(tupleOf(great, other)) || !ok && show(got) != "0 []" {
			t.Error(parts, ok)
		}
	}
}

// small answers some sorts that lie within one another in many ways.
func small() []api.Sort {
	atoms := soAll("?", "int", "bool")
	rows := slices.Concat(atoms, soAll("()"))
	for _, a := range atoms {
		rows = append(rows, listOf(a), setOf(a), tupleOf(a))
		for _, b := range atoms {
			rows = append(rows, tupleOf(a, b))
		}
	}
	all := slices.Clone(rows)
	for _, a := range rows {
		all = append(all, listOf(a), tupleOf(a, so("?")), tupleOf(so("list ?"), a))
	}
	return all
}

// P12.6: Join is the least, Within an order.
func TestJoinIsTheLeast(t *testing.T) {
	all := small()
	in := make([][]bool, len(all))
	for i, a := range all {
		for _, b := range all {
			in[i] = append(in[i], sorts.Within(a, b))
			if in[i][len(in[i])-1] != modelWithin(a, b) {
				t.Fatal("Within:", show(a), show(b))
			}
		}
	}
	for i, a := range all {
		for j, b := range all {
			if in[i][j] && in[j][i] != (show(a) == show(b)) {
				t.Fatal("no order:", show(a), show(b))
			}
			whole, ok := sorts.Join(a, b)
			if ok && (!sorts.Within(a, whole) || !sorts.Within(b, whole)) {
				t.Fatal("not within the join:", show(a), show(b))
			}
			for k, c := range all {
				if in[i][j] && in[j][k] && !in[i][k] {
					t.Fatal("does not carry over:", show(a), show(b), show(c))
				}
				if in[i][k] && in[j][k] && (!ok || !sorts.Within(whole, c)) {
					t.Fatal("not the least:", show(a), show(b), show(c))
				}
			}
		}
	}
}

func TestJoinByChance(t *testing.T) {
	rnd := rand.New(rand.NewSource(3))
	joined := 0
	for range 30000 {
		a := anySort(rnd, api.SNone, 3)
		b := widened(rnd, a)
		a = widened(rnd, a)
		before := fmt.Sprint(a, b)
		got, ok := sorts.Join(a, b)
		want, wanted := modelJoin(a, b)
		if ok != wanted || show(got) != show(want) || fmt.Sprint(a, b) != before {
			t.Fatal(show(a), show(b), show(got), ok)
		}
		if sorts.Within(a, b) != modelWithin(a, b) {
			t.Fatal("Within:", show(a), show(b))
		}
		fresh(t, got, a, b)
		if ok {
			joined++
		}
	}
	if joined < 10000 {
		t.Error("too few joins:", joined)
	}
}

// P12.6: what fits a sort fits every one that it lies within.
func TestWithinIsOfValues(t *testing.T) {
	rnd := rand.New(rand.NewSource(4))
	seen := 0
	for range 30000 {
		v := anyValue(rnd, 3)
		a, ok := sorts.Of(v)
		if !ok {
			continue
		}
		a = widened(rnd, a)
		b := widened(rnd, a)
		if sorts.Within(a, b) && sorts.Fits(a, v) {
			seen++
			if !sorts.Fits(b, v) {
				t.Fatalf("%+v fits %s, but not %s", v, show(a), show(b))
			}
		}
	}
	if seen < 5000 {
		t.Error("too few:", seen)
	}
}

// P12.4

func TestOf(t *testing.T) {
	one, yes := integer(1), boolean(1)
	empty, none := rowOf(api.KList), rowOf(api.KSet)
	for _, x := range []struct {
		of   api.Value
		want string
	}{
		{one, "int"}, {yes, "bool"}, {sym("a"), "symbol"}, {gauss(0, 1), "gauss"},
		{rowOf(api.KTuple), "()"}, {rowOf(api.KTuple, one, yes, empty), "(int, bool, list ?)"},
		{empty, "list ?"}, {none, "set ?"}, {rowOf(api.KList, one, one), "list int"}, {rowOf(api.KSet, yes), "set bool"},
		{rowOf(api.KList, none, rowOf(api.KSet, one)), "list set int"},
		{rowOf(api.KList, rowOf(api.KSet, one), none), "list set int"},
		{rowOf(api.KList, rowOf(api.KTuple, empty, rowOf(api.KList, one)), rowOf(api.KTuple, rowOf(api.KList, yes), empty)), "list (list bool, list int)"},
		{rowOf(api.KList, one, yes), ""}, {rowOf(api.KSet, yes, one), ""}, {rowOf(api.KTuple, one, rowOf(api.KList, one, sym("a"))), ""},
		{rowOf(api.KList, rowOf(api.KTuple), rowOf(api.KTuple, one)), ""}, {rowOf(api.KList, empty, none), ""},
		{rowOf(api.KList, rowOf(api.KList, one), rowOf(api.KList, yes)), ""},
	} {
		got, ok := sorts.Of(x.of)
		if ok != (x.want != "") || ok && show(got) != show(so(x.want)) || !ok && show(got) != "0 []" {
			t.Errorf("%+v: %s, %t", x.of, show(got), ok)
		}
		fresh(t, got)
	}
	for _, v := range wrongValues() {
		if got, ok := sorts.Of(v); ok || show(got) != "0 []" {
			t.Errorf("%+v: %s, %t", v, show(got), ok)
		}
	}
}

func TestOfGreatValues(t *testing.T) {
	deep := rowOf(api.KList)
	for range 15 {
		deep = rowOf(api.KList, deep)
	}
	if got, ok := sorts.Of(deep); !ok || show(got) != show(nested(16, so("?"))) {
		t.Error("sixteen levels:", show(got), ok)
	}
	repeat := func(n int, v api.Value) api.Value {
		return rowOf(api.KTuple, slices.Repeat([]api.Value{v}, n)...)
	}
	if got, ok := sorts.Of(repeat(4095, integer(1))); !ok || show(got) != show(wide(4095, so("int"))) {
		t.Error("4096 parts:", ok)
	}
	// An empty list has one part, its sort two: no sort that may be has such a value.
	if got, ok := sorts.Of(repeat(2047, rowOf(api.KList))); !ok || show(got) != show(wide(2047, so("list ?"))) {
		t.Error("a sort of 4095 parts:", ok)
	}
	if got, ok := sorts.Of(repeat(2048, rowOf(api.KList))); ok || show(got) != "0 []" {
		t.Error("a sort of 4097 parts:", ok)
	}
	// Each of the two items has a sort, but together they have none.
	great := rowOf(api.KList, repeat(1500, rowOf(api.KList)))
	both := rowOf(api.KList, rowOf(api.KTuple, great, rowOf(api.KList)), rowOf(api.KTuple, rowOf(api.KList), great))
	if got, ok := sorts.Of(both); ok || show(got) != "0 []" || value.Check(both) != api.OK {
		t.Error("a join of too many parts:", ok)
	}
}

// P12.6: Of(v) fits v, and lies within every sort that v fits.
func TestOfIsTheLeast(t *testing.T) {
	rnd := rand.New(rand.NewSource(5))
	all := small()
	valued := slices.DeleteFunc(small(), func(s api.Sort) bool { return !hasValue(s) })
	found, fit := 0, 0
	for range 6000 {
		v := anyValue(rnd, 2)
		if rnd.Intn(2) == 0 {
			v = anyOf(rnd, pick(rnd, valued))
		}
		before := fmt.Sprint(v)
		s, ok := sorts.Of(v)
		want, wanted := modelOf(v)
		if ok != wanted || ok && show(s) != show(want) || fmt.Sprint(v) != before {
			t.Fatalf("%+v: %s, %t", v, show(s), ok)
		}
		if ok && !sorts.Fits(s, v) {
			t.Fatalf("%+v is not of %s", v, show(s))
		}
		if ok {
			found++
		}
		for _, other := range all {
			if sorts.Fits(other, v) {
				fit++
				if !ok || !sorts.Within(s, other) {
					t.Fatalf("%+v: %s is not within %s", v, show(s), show(other))
				}
			}
		}
	}
	if found < 3000 || fit < 6000 {
		t.Error("too few:", found, fit)
	}
}

// R1: a list that is an item of itself, or stands in very many places.
func TestSortsWithinThemselves(t *testing.T) {
	list, two, many := listOf(so("int")), wide(2, so("int")), so("int")
	list.Items[0] = list
	two.Items[0], two.Items[1] = two, two
	for range 60 {
		many = wide(2, many)
	}
	for _, s := range []api.Sort{list, two, many, wide(1<<20, wide(4000, so("int")))} {
		if sorts.Sort(s) || sorts.Fits(s, rowOf(api.KList)) || sorts.Within(s, s) || sorts.Within(so("?"), s) {
			t.Error("one that may be")
		}
		if _, ok := sorts.Join(s, so("?")); ok {
			t.Error("a join")
		}
		if got, f := sorts.Expr(name("x"), []string{"x"}, []api.Sort{s}); f.Code != api.OK || got.Kind != api.SNone {
			t.Error("no SNone:", f)
		}
		if f := sorts.Auto(api.Auto{Mode: api.MSet, Arg: s, Reply: so("int"), State: so("int"), Start: number(1)}); f.Code != api.ErrUnlike {
			t.Error(f)
		}
	}
}
