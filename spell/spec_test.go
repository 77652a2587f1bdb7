package spell_test

import (
	"math/rand"
	"slices"
	"strings"
	"testing"

	"sextant/api"
	"sextant/spell"
	"sextant/syntax"
	"sextant/value"
)

// P11.1 Sort, Value, Spec

func TestSortForms(t *testing.T) {
	i, b := sortOf(api.SInt), sortOf(api.SBool)
	for _, k := range []struct {
		s    api.Sort
		want string
	}{
		{i, "int"}, {b, "bool"}, {sortOf(api.SSym), "symbol"}, {sortOf(api.SGauss), "gauss"}, {sortOf(api.SList, i), "list int"}, {sortOf(api.SSet, b), "set bool"}, {sortOf(api.SList, sortOf(api.SSet, sortOf(api.SList, i))), "list set list int"},
		{sortOf(api.STuple), "()"}, {sortOf(api.STuple, i), "(int,)"}, {sortOf(api.STuple, i, b), "(int, bool)"}, {sortOf(api.STuple, i, sortOf(api.SSet, b), sortOf(api.STuple)), "(int, set bool, ())"}, {sortOf(api.STuple, sortOf(api.STuple, i)), "((int,),)"}, {sortOf(api.SList, sortOf(api.STuple, i, i)), "list (int, int)"}, {api.Sort{Kind: api.SInt, Items: []api.Sort{}}, "int"},
	} {
		if got, e := speltSort(t, k.s); got != k.want || e != api.OK {
			t.Errorf("%q, %d, want %q", got, e, k.want)
		}
	}
	for _, s := range []api.Sort{
		{}, {Kind: -1}, {Kind: 8}, sortOf(api.SInt, i), sortOf(api.SBool, i), sortOf(api.SSym, sortOf(api.SNone)), sortOf(api.SGauss, i), sortOf(api.SList), sortOf(api.SList, i, i), sortOf(api.SSet), sortOf(api.SSet, i, i), sortOf(api.SSet, i, i, i), sortOf(api.STuple, sortOf(api.SNone)), sortOf(api.STuple, i, sortOf(api.SNone)), sortOf(api.SList, sortOf(api.SNone)), sortOf(api.SList, sortOf(api.SList)),
	} {
		if got, e := speltSort(t, s); e != api.ErrSpell {
			t.Errorf("%+v: %q, %d", s, got, e)
		}
	}
}

func TestSortByChance(t *testing.T) {
	rnd := rand.New(rand.NewSource(3))
	for range 2000 {
		s := anySort(rnd, rnd.Intn(5))
		text, e := speltSort(t, s)
		back, f := syntax.Sort(text)
		if e != api.OK || f.Code != api.OK || !syntax.SameSort(s, back) || strings.Contains(text, "  ") {
			t.Fatalf("%+v: %q, %d, %+v", s, text, e, f)
		}
		wide, f := syntax.Sort(spaced(t, rnd, text))
		if again, e := speltSort(t, wide); again != text || e != api.OK || f.Code != api.OK {
			t.Fatalf("%q, %q", text, again)
		}
	}
}

func TestSortNests(t *testing.T) {
	for _, k := range []struct {
		kind        api.SortKind
		left, right string
	}{{api.SList, "list ", ""}, {api.SSet, "set ", ""}, {api.STuple, "(", ",)"}} {
		s := sortOf(api.SInt)
		for n := range 70 {
			want, code := strings.Repeat(k.left, n)+"int"+strings.Repeat(k.right, n), api.OK
			if n > 63 {
				want, code = "", api.ErrSpell
			}
			if got, e := speltSort(t, s); got != want || e != code {
				t.Errorf("%d times %s: %q, %d", n, k.left, got, e)
			}
			s = sortOf(k.kind, s)
		}
		for range 1<<16 - 80 {
			s = sortOf(k.kind, s)
		}
		if got, e := spell.Sort(s); got != "" || e != api.ErrSpell {
			t.Errorf("of a deep one: %.20q, %d", got, e)
		}
	}
}

func TestValueForms(t *testing.T) {
	one, two := integer(1), integer(-2)
	for _, k := range []struct {
		v    api.Value
		want string
	}{
		{integer(0), "0"}, {one, "1"}, {two, "-2"}, {integer(1<<63 - 1), "9223372036854775807"}, {integer(least), "-9223372036854775808"}, {boolean(0), "false"}, {boolean(1), "true"}, {sym("a"), "#a"}, {sym("λ'"), "#λ'"}, {sym("gauss"), "#gauss"},
		{gauss(1, -1), "gauss(1, -1)"}, {gauss(0, 0), "gauss(0, 0)"}, {gauss(-api.MaxPart, api.MaxPart), "gauss(-1048576, 1048576)"}, {rowOf(api.KTuple), "()"}, {rowOf(api.KTuple, one), "(1,)"}, {rowOf(api.KTuple, one, two), "(1, -2)"}, {rowOf(api.KList), "[]"}, {rowOf(api.KList, one), "[1]"}, {rowOf(api.KList, one, two, one), "[1, -2, 1]"},
		{rowOf(api.KSet), "{}"}, {rowOf(api.KSet, one), "{1}"}, {rowOf(api.KSet, two, one), "{-2, 1}"}, {rowOf(api.KTuple, rowOf(api.KTuple, sym("a")), rowOf(api.KSet, boolean(0), gauss(2, 3)), rowOf(api.KList, rowOf(api.KList))), "((#a,), {false, gauss(2, 3)}, [[]])"},
	} {
		if got, e := speltValue(t, k.v); got != k.want || e != api.OK {
			t.Errorf("%q, %d, want %q", got, e, k.want)
		}
	}
	for _, v := range []api.Value{
		{}, {Kind: -1}, {Kind: 8}, boolean(2), boolean(-1), sym(""), sym("true"), sym("false"), sym("a b"), sym("1"), sym(strings.Repeat("s", 33)), gauss(api.MaxPart+1, 0), gauss(0, -api.MaxPart-1), rowOf(api.KSet, one, two), rowOf(api.KSet, one, one), rowOf(api.KList, api.Value{}), rowOf(api.KTuple, one, boolean(3)), {Kind: api.KInt, Im: 1}, {Kind: api.KInt, Text: "x"}, {Kind: api.KInt, Items: []api.Value{one}}, {Kind: api.KList, Int: 1}, {Kind: api.KTuple, Text: "x"},
	} {
		if got, e := speltValue(t, v); e != api.ErrSpell {
			t.Errorf("%+v: %q, %d", v, got, e)
		}
	}
}

func TestValueLimits(t *testing.T) {
	v := integer(1)
	for n := 1; n < 20; n++ {
		got, e := speltValue(t, v)
		want, code := strings.Repeat("[", n-1)+"1"+strings.Repeat("]", n-1), api.OK
		if n > api.MaxDeep {
			want, code = "", api.ErrSpell
		}
		if got != want || e != code {
			t.Errorf("%d levels: %q, %d", n, got, e)
		}
		v = rowOf(api.KList, v)
	}
	wide := rowOf(api.KTuple, slices.Repeat([]api.Value{integer(7)}, api.MaxNodes-1)...)
	if got, e := speltValue(t, wide); got != "("+strings.Repeat("7, ", api.MaxNodes-2)+"7)" || e != api.OK {
		t.Errorf("as many as may be: %.20q, %d", got, e)
	}
	wide.Items = append(wide.Items, integer(7))
	if got, e := speltValue(t, wide); e != api.ErrSpell {
		t.Errorf("one more: %.20q, %d", got, e)
	}
	items := make([]api.Value, 2)
	items[0], items[1] = rowOf(api.KTuple, items...), integer(1)
	items[0].Items = items
	if got, e := spell.Value(items[0]); got != "" || e != api.ErrSpell {
		t.Errorf("of one that lies in itself: %q, %d", got, e)
	}
}

func TestValueByChance(t *testing.T) {
	rnd := rand.New(rand.NewSource(4))
	for range 5000 {
		v := anyValue(rnd, rnd.Intn(5))
		got, e := speltValue(t, v)
		if want := modelValue(t, v); got != want || e != api.OK {
			t.Fatalf("%q, %d, want %q", got, e, want)
		}
		s := specOf(t, "table t set arg int reply int state int start 0 { row "+got+" { a b 0 } gives { a 0 } next 0; }")
		if value.Compare(s.Autos[0].Rows[0].From, v) != 0 {
			t.Fatalf("%q is read as %+v", got, s.Autos[0].Rows[0].From)
		}
	}
}

// example has all forms there are, as they are written.
const example = `automaton A linear arg int reply (bool,) state list (int, symbol) start [] {
  rule r give {(0, 1)} next state + 1;
  rule s for x in calls, y in if a then b else c when x.0 != #p give {} next (x, y);
  rule next for x in {1} give x next -5;
  rule t when false give if a then b else c next let x = 1 do x;
}
table T set arg set () reply gauss state symbol start #a {
  row #a { x op {-2, 1}, y op [] } gives { x (), y gauss(1, -1) } next #b;
  row () { true if -1 } gives { true false } next (1,);
}
automaton B interval arg int reply int state int start gauss(0, 0) {
}
table E linear arg int reply int state int start if a then b else c {
}
object x is A;
object if is nowhere;
`

func TestSpecForms(t *testing.T) {
	if got, e := speltSpec(t, specOf(t, example)); got != example || e != api.OK {
		t.Errorf("%s %d", got, e)
	}
	for _, s := range []api.Spec{{}, {Autos: []api.Auto{}, Binds: []api.Bind{}}} {
		if got, e := speltSpec(t, s); got != "" || e != api.OK {
			t.Errorf("of nothing: %q, %d", got, e)
		}
	}
	if got, e := speltSpec(t, api.Spec{Binds: []api.Bind{{Object: "o", Auto: "A"}}}); got != "object o is A;\n" || e != api.OK {
		t.Errorf("of a bind: %q, %d", got, e)
	}
}

// A guard that is the literal true is left out, and no other.
func TestSpecGuards(t *testing.T) {
	for when, want := range map[string]string{
		"": "", "when true": "", "when (true)": "", "when false": " when false", "when not false": " when not false", "when true and true": " when true and true", "when (true,)": " when (true,)", "when #a": " when #a", "when 1": " when 1",
	} {
		s := specOf(t, "automaton A set arg int reply int state int start 0 { rule r "+when+" give 1 next 2; }")
		want = "automaton A set arg int reply int state int start 0 {\n  rule r" + want + " give 1 next 2;\n}\n"
		if got, e := speltSpec(t, s); got != want || e != api.OK {
			t.Errorf("%q: %q, %d", when, got, e)
		}
	}
}

// spoilers are each one thing that takes a specification its text.
var spoilers = map[string]func(s *api.Spec){
	"no name":            func(s *api.Spec) { s.Autos[0].Name = "" },
	"a name of two":      func(s *api.Spec) { s.Autos[0].Name = "A linear" },
	"a name of digits":   func(s *api.Spec) { s.Autos[2].Name = "1" },
	"a long name":        func(s *api.Spec) { s.Autos[2].Name = strings.Repeat("n", 33) },
	"no mode":            func(s *api.Spec) { s.Autos[0].Mode = 0 },
	"a fourth mode":      func(s *api.Spec) { s.Autos[0].Mode = 4 },
	"a mode in a name":   func(s *api.Spec) { s.Autos[0].Mode, s.Autos[0].Name = 0, "A linear" },
	"no argument":        func(s *api.Spec) { s.Autos[0].Arg = api.Sort{} },
	"no reply":           func(s *api.Spec) { s.Autos[0].Reply.Items = []api.Sort{{}} },
	"no state":           func(s *api.Spec) { s.Autos[0].State.Items = nil },
	"no start":           func(s *api.Spec) { s.Autos[0].Start = api.Expr{} },
	"a start":            func(s *api.Spec) { s.Autos[1].Start.Value.Text = "a b" },
	"a table with rules": func(s *api.Spec) { s.Autos[1].Rules = s.Autos[0].Rules },
	"an empty one with":  func(s *api.Spec) { s.Autos[3].Rules = s.Autos[0].Rules },
	"rules with rows":    func(s *api.Spec) { s.Autos[0].Rows = s.Autos[1].Rows },
	"rows of no table":   func(s *api.Spec) { s.Autos[2].Rows = s.Autos[1].Rows },
	"a table of rules":   func(s *api.Spec) { s.Autos[0].Table = true },
	"rules of a table":   func(s *api.Spec) { s.Autos[1].Table = false },
	"a rule's name":      func(s *api.Spec) { s.Autos[0].Rules[0].Name = "#r" },
	"a rule of two":      func(s *api.Spec) { s.Autos[0].Rules[0].Name = "r give 1 next 2; rule r" },
	"no generator":       func(s *api.Spec) { s.Autos[0].Rules[1].Gens[0] = api.Gen{} },
	"a generator's name": func(s *api.Spec) { s.Autos[0].Rules[1].Gens[1].Name = "in" },
	"a generator's from": func(s *api.Spec) { s.Autos[0].Rules[1].Gens[1].From.Items[0].Name = "if" },
	"no guard":           func(s *api.Spec) { s.Autos[0].Rules[0].When = api.Expr{} },
	"a named guard":      func(s *api.Spec) { s.Autos[0].Rules[0].When.Name = "x" },
	"a guard of more":    func(s *api.Spec) { s.Autos[0].Rules[0].When.Items = []api.Expr{name("x")} },
	"a guard of two":     func(s *api.Spec) { s.Autos[0].Rules[0].When.Value.Int = 2 },
	"a guard not right":  func(s *api.Spec) { s.Autos[0].Rules[0].When.Value.Im = 1 },
	"no give":            func(s *api.Spec) { s.Autos[0].Rules[0].Give = api.Expr{} },
	"no next":            func(s *api.Spec) { s.Autos[0].Rules[0].Next = api.Expr{} },
	"the least next":     func(s *api.Spec) { s.Autos[0].Rules[2].Next.Value.Int = least },
	"no from":            func(s *api.Spec) { s.Autos[1].Rows[0].From = api.Value{} },
	"a from not right":   func(s *api.Spec) { s.Autos[1].Rows[0].From.Int = 1 },
	"no to":              func(s *api.Spec) { s.Autos[1].Rows[0].To = api.Value{} },
	"no calls":           func(s *api.Spec) { s.Autos[1].Rows[0].Calls = nil },
	"no replies":         func(s *api.Spec) { s.Autos[1].Rows[0].Replies = nil },
	"a call's who":       func(s *api.Spec) { s.Autos[1].Rows[0].Calls[0].Who = "" },
	"a call's op":        func(s *api.Spec) { s.Autos[1].Rows[0].Calls[0].Op = "" },
	"an op in a value": func(s *api.Spec) {
		s.Autos[1].Rows[0].Calls[0].Op, s.Autos[1].Rows[0].Calls[0].Arg = "", gauss(1, 2)
	},
	"a call's arg":      func(s *api.Spec) { s.Autos[1].Rows[0].Calls[1].Arg.Items = []api.Value{{}} },
	"a set that falls":  func(s *api.Spec) { slices.Reverse(s.Autos[1].Rows[0].Calls[0].Arg.Items) },
	"a reply's who":     func(s *api.Spec) { s.Autos[1].Rows[0].Replies[0].Who = "x y" },
	"a reply's value":   func(s *api.Spec) { s.Autos[1].Rows[0].Replies[1].Value.Int = api.MaxPart + 1 },
	"the least integer": func(s *api.Spec) { s.Autos[1].Rows[1].Calls[0].Arg.Int = least },
	"an object":         func(s *api.Spec) { s.Binds[0].Object = "1" },
	"an object of two":  func(s *api.Spec) { s.Binds[0].Object = "x is A; object x" },
	"its automaton":     func(s *api.Spec) { s.Binds[1].Auto = "" },
	"a remark":          func(s *api.Spec) { s.Binds[1].Auto = "A; //" },
	"a zero automaton":  func(s *api.Spec) { s.Autos = append(s.Autos, api.Auto{}) },
	"a zero bind":       func(s *api.Spec) { s.Binds = append(s.Binds, api.Bind{}) },
	"a zero rule":       func(s *api.Spec) { s.Autos[2].Rules = []api.Rule{{}} },
	"a zero row":        func(s *api.Spec) { s.Autos[3].Rows = []api.Row{{}} },
}

func TestSpecWithoutText(t *testing.T) {
	for what, spoil := range spoilers {
		s := specOf(t, example)
		spoil(&s)
		if got, e := speltSpec(t, s); e != api.ErrSpell {
			t.Errorf("%s: %q, %d", what, got, e)
		}
	}
}

// R1: what lies too deep, or in itself, ends.
func TestSpecOfAnything(t *testing.T) {
	items := make([]api.Value, 1)
	round := rowOf(api.KSet, items...)
	round.Items = items
	items[0] = round
	for i, put := range []func(r *api.Row){
		func(r *api.Row) { r.From = round }, func(r *api.Row) { r.To = round }, func(r *api.Row) { r.Calls[0].Arg = round }, func(r *api.Row) { r.Replies[0].Value = round },
	} {
		s := specOf(t, example)
		put(&s.Autos[1].Rows[0])
		if got, e := spell.Spec(s); got != "" || e != api.ErrSpell {
			t.Error(i, got, e)
		}
	}
	deep := name("x")
	for range 1<<16 - 5 {
		deep = unary("-", deep)
	}
	s := specOf(t, example)
	s.Autos[0].Rules[0].Give = deep
	if got, e := spell.Spec(s); got != "" || e != api.ErrSpell {
		t.Errorf("%.20q, %d", got, e)
	}
}
