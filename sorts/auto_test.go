package sorts_test

import (
	"fmt"
	"math/rand"
	"slices"
	"strings"
	"testing"

	"sextant/api"
	"sextant/sorts"
	"sextant/syntax"
)

// P12.7, P12.8

// checked answers what is wrong with a specification, and fails if the call changes it, or says something else of an automaton alone.
func checked(t testing.TB, s api.Spec) api.Fault {
	t.Helper()
	before := fmt.Sprintf("%+v", s)
	f := sorts.Spec(s)
	for _, a := range s.Autos {
		if own := sorts.Auto(a); own != modelAuto(a) {
			t.Fatalf("Auto(%+v): %+v, want %+v", a, own, modelAuto(a))
		}
	}
	if want := modelSpec(s); f != want {
		t.Fatalf("Spec(%+v): %+v, want %+v", s, f, want)
	}
	if after := fmt.Sprintf("%+v", s); after != before {
		t.Fatalf("%s has become %s", before, after)
	}
	return f
}

// holdSpec fails unless a specification's fault is that one, at the mark @.
func holdSpec(t *testing.T, s string, code api.Errno) {
	t.Helper()
	plain, off := marked(s)
	f := checked(t, parsed(t, syntax.Parse, plain))
	if f.Code != code || code != api.OK && f.At.Off != off || code == api.OK && f != (api.Fault{}) {
		t.Errorf("%s: %+v, want %d at %d", s, f, code, off)
	}
}

const (
	linear = "automaton A linear arg int reply int state list int start [] "
	sets   = "automaton A set arg int reply bool state int start 0 "
)

func TestAutoExamples(t *testing.T) {
	holdSpec(t, "automaton A linear arg int reply int state int start 0 { rule r give @{(0, 1)} next state + 1; } object x is A;", api.ErrUnlike)
	holdSpec(t, "automaton A linear arg int reply int state int start 0 { rule r give arg next state + 1; } object x is A;", api.OK)
	holdSpec(t, "", api.OK)
	for s, code := range map[string]api.Errno{
		"automaton R linear arg int reply int state int start 0 { rule read when op == #read give state next state; rule write when op == #write give 0 next arg; }":                                                                                                                     api.OK,
		"automaton E set arg int reply int state int start 0 { rule swap for x in calls, y in calls when size(calls) == 2 and x.0 < y.0 give {(x.0, y.2), (y.0, x.2)} next state; rule alone when size(calls) == 1 give fold c, s over calls from {} with s | {(c.0, -1)} next state; }": api.OK,
		"table S set arg int reply int state int start 0 { row 0 { a swap 1, b swap 2 } gives { a 2, b 1 } next 0; row 0 { a swap 1, b swap 1 } gives { a 1, b 0 } next 3; }":                                                                                                            api.OK,
	} {
		holdSpec(t, s, code)
	}
}

func TestAutoHeads(t *testing.T) {
	base := api.Auto{Name: "A", At: api.Spot{Off: 9, Line: 2, Col: 3}, Mode: api.MSet, Arg: so("int"), Reply: so("int"), State: so("int"), Start: number(0)}
	holds := func(a api.Auto, ok bool) {
		t.Helper()
		want := api.Fault{Code: api.ErrUnlike, At: base.At}
		if ok {
			want = api.Fault{}
		}
		// A table says the same.
		for _, table := range []bool{false, true} {
			a.Table = table
			if f := sorts.Auto(a); f != want || f != modelAuto(a) {
				t.Errorf("%d, %s, %s, %s, %t: %+v", a.Mode, show(a.Arg), show(a.Reply), show(a.State), table, f)
			}
		}
	}
	for mode := api.Mode(-1); mode <= 5; mode++ {
		a := base
		a.Mode = mode
		holds(a, mode >= 1 && mode <= 3)
	}
	wrong := append(wrongSorts(), so("?"), so("list ?"), so("(int, ?)"), nested(64, so("int")), wide(4096, so("int")))
	for mode := api.MLinear; mode <= api.MInterval; mode++ {
		base.Mode = mode
		for _, s := range wrong {
			for i := range 3 {
				a := base
				*[]*api.Sort{&a.Arg, &a.Reply, &a.State}[i] = s
				holds(a, false)
			}
		}
		// `calls` is of two levels and four parts more than an argument, what a rule gives of two levels and three parts more than a reply.
		for _, x := range []struct {
			sort   api.Sort
			linear bool
			arg    bool
			reply  bool
		}{
			{nested(61, so("int")), true, true, true}, {nested(62, so("int")), true, false, false}, {nested(63, so("int")), true, false, false}, {nested(64, so("int")), false, false, false},
			{wide(4091, so("int")), true, true, true}, {wide(4092, so("int")), true, false, true}, {wide(4093, so("int")), true, false, false}, {wide(4095, so("int")), true, false, false}, {wide(4096, so("int")), false, false, false},
		} {
			a, r, s := base, base, base
			a.Arg, r.Reply = x.sort, x.sort
			holds(a, x.linear && (x.arg || mode == api.MLinear))
			holds(r, x.linear && (x.reply || mode == api.MLinear))
			s.State = x.sort
			s.Start = call("head", of(api.EList))
			holds(s, x.linear)
		}
	}
	base.Mode = api.MLinear
	right := api.Rule{When: boolean1(), Give: number(0), Next: number(0)}
	row := api.Row{From: integer(0), Calls: []api.RowCall{{Who: "a", Op: "f", Arg: integer(0)}}, Replies: []api.RowReply{{Who: "a", Value: integer(0)}}, To: integer(0)}
	for _, x := range []struct {
		table       bool
		rules, rows int
		ok          bool
	}{{false, 1, 0, true}, {true, 0, 1, true}, {false, 0, 1, false}, {true, 1, 0, false}, {true, 1, 1, false}, {false, 1, 1, false}, {true, 0, 0, true}, {false, 0, 0, true}} {
		a := base
		a.Table, a.Rules, a.Rows = x.table, slices.Repeat([]api.Rule{right}, x.rules), slices.Repeat([]api.Row{row}, x.rows)
		if f := sorts.Auto(a); (f == api.Fault{}) != x.ok || f != modelAuto(a) {
			t.Errorf("%+v: %+v", x, f)
		}
	}
	// What is wrong with the head comes ahead of the start's faults.
	a := base
	a.Start, a.Table, a.Rules = name("z"), true, []api.Rule{right}
	if f := sorts.Auto(a); f != (api.Fault{Code: api.ErrUnlike, At: base.At}) {
		t.Error(f)
	}
}

func TestAutoStart(t *testing.T) {
	for s, code := range map[string]api.Errno{
		"automaton A linear arg int reply int state list int start [] { }":                                           api.OK,
		"automaton A linear arg int reply int state (int, set bool) start (1 + 1, {}) { }":                           api.OK,
		"automaton A linear arg int reply int state int start head([]) { }":                                          api.OK,
		"automaton A linear arg int reply int state int start @#a { }":                                               api.ErrUnlike,
		"automaton A linear arg int reply int state int start 1 @== 1 { }":                                           api.ErrUnlike,
		"automaton A linear arg int reply int state list int start @[true] { }":                                      api.ErrUnlike,
		"automaton A linear arg int reply int state int start 1 + (1 @/ #a) { }":                                     api.ErrUnlike,
		"automaton A linear arg int reply int state int start @state { }":                                            api.ErrUnknown,
		"automaton A linear arg int reply int state int start @arg { rule r give true next 0; }":                     api.ErrUnknown,
		"automaton A set arg int reply int state int start size(@calls) { }":                                         api.ErrUnknown,
		"table A set arg int reply int state int start @true { row #a { a f 1 } gives { a 1 } next 0; }":             api.ErrUnlike,
		"table A set arg int reply int state int start @op { }":                                                      api.ErrUnknown,
		"automaton A linear arg int reply int state int start @let x = 0 do true { rule r give true next true; }":    api.ErrUnlike,
		"automaton A linear arg int reply int state int start fold x, a over [1] from @y with a + x { }":             api.ErrUnknown,
		"automaton A linear arg int reply int state set int start fold x, a over [1] from {} with with(a, x) { }":    api.OK,
		"automaton A linear arg int reply int state set int start @fold x, a over [1] from {} with with(a, {x}) { }": api.ErrUnlike,
	} {
		holdSpec(t, s, code)
	}
}

func TestAutoRules(t *testing.T) {
	for _, s := range []string{
		linear + "{ rule r when op == #a and proc != #b give arg + size(state) next push(state, arg); rule r give head(state) next tail(state); }",
		linear + "{ rule r for x in state, y in range(0, x) when x < y give y next state + [x]; }",
		linear + "{ rule r for x in head([]) give x next x; }",
		linear + "{ rule r for x in [] when x give x next x; }",
		linear + "{ rule r for state in state give state next [state]; rule s give arg next state; }",
		linear + "{ rule r for x in [state], x in x give x next [x]; }",
		linear + "{ rule r for x in {op, proc} when x == op give arg next []; }",
		linear + "{ rule r when head([]) give head([]) next head([]); }",
		sets + "{ rule r for c in calls when c.0 == c.1 and c.2 > state give {(c.0, true)} next state + c.2; }",
		sets + "{ rule r give {} next 0; rule s give fold c, s over calls from {} with s | {(c.0, c.2 == 0)} next size(calls); }",
		sets + "{ rule r give {(head([]), head([]))} next 0; rule s give head([]) next 0; }",
		"automaton A interval arg () reply () state () start () { rule r for c in list(calls) give {(c.0, c.2)} next state; }",
		"automaton A interval arg gauss reply gauss state gauss start gauss(0, 0) { rule r for c in calls give {(c.0, state)} next state * c.2; }",
	} {
		holdSpec(t, s, api.OK)
	}
	for _, s := range []string{
		linear + "{ rule r when @arg give 0 next state; }", linear + "{ rule r when @[] give 0 next state; }", linear + "{ rule r give @true next state; }", linear + "{ rule r give @state next state; }",
		linear + "{ rule r give arg next @arg; }", linear + "{ rule r give arg next @{}; }", linear + "{ rule r when arg @and true give 0 next state; }", linear + "{ rule r give 0 next state @+ arg; }",
		linear + "{ rule r for x in @arg give 0 next state; }", linear + "{ rule r for x in @op give 0 next state; }", linear + "{ rule r for x in @(1, 2) give 0 next state; }", linear + "{ rule r for x in 1 @+ 2 give 0 next state; }", linear + "{ rule r for x in state, y in @x give 0 next state; }",
		linear + "{ rule r for x in [@not 1] give 0 next state; }", linear + "{ rule r for x in {#a} when x @< arg give 0 next state; }", linear + "{ rule r give 0 next state; rule s give @true next true; }",
		linear + "{ rule r for state in [1] give 0 next @state; }", linear + "{ rule r when @1 give true next true; }", linear + "{ rule r give @true next true; }",
		linear + "{ rule r for x in @1 when 1 give true next true; }", linear + "{ rule r when (@not 1) give z next z; }",
		sets + "{ rule r give @true next 0; }", sets + "{ rule r give @{true} next 0; }", sets + "{ rule r give @{(#a, 1)} next 0; }", sets + "{ rule r give @[(#a, true)] next 0; }", sets + "{ rule r give @{(1, true)} next 0; }", sets + "{ rule r give @{(#a, true, 1)} next 0; }",
		sets + "{ rule r for c in calls give @{(c.0, c.2)} next 0; }", sets + "{ rule r for c in calls give {} next @c; }", sets + "{ rule r for c in calls when c.1 == c@.3 give {} next 0; }",
		sets + "{ rule r for c in calls when c.2 @== true give {} next 0; }", sets + "{ rule r give {} next @calls; }",
	} {
		holdSpec(t, s, api.ErrUnlike)
	}
	for _, s := range []string{
		linear + "{ rule r when @calls == {} give 0 next state; }", linear + "{ rule r give @x next state; }", linear + "{ rule r for x in state give x next state; rule s give @x next state; }", linear + "{ rule r for x in @x give 0 next state; }",
		linear + "{ rule r for x in @y, y in state give 0 next state; }", linear + "{ rule r give f(@z) next state; }", linear + "{ rule r give 0 next @f(state); }", linear + "{ rule r for x in @z when 1 give true next state; }",
		sets + "{ rule r when @arg == 1 give {} next 0; }", sets + "{ rule r when @op == #a give {} next 0; }", sets + "{ rule r when @proc == #a give {} next 0; }", sets + "{ rule r give {} next @c; }", linear + "{ rule r give @z next true; }",
		linear + "{ rule r for state in [1] give state next [state]; rule s for x in @x give arg next state; }",
	} {
		holdSpec(t, s, api.ErrUnknown)
	}
}

func TestAutoGenerators(t *testing.T) {
	gen := func(name string, from api.Expr) api.Gen {
		return api.Gen{Name: name, At: api.Spot{Off: 5, Line: 1, Col: 6}, From: from}
	}
	from := of(api.EList, number(1))
	from.At = api.Spot{Off: 7, Line: 1, Col: 8}
	wrong := from
	wrong.Kind = api.ETuple
	unknown := name("z")
	unknown.At = api.Spot{Off: 8, Line: 1, Col: 9}
	for _, x := range []struct {
		gens []api.Gen
		want api.Fault
	}{
		{[]api.Gen{gen("x", from)}, api.Fault{}},
		{[]api.Gen{gen("true", from), gen("if", from), gen("λ'", from), gen(strings.Repeat("x", 32), from)}, api.Fault{}},
		{[]api.Gen{gen("", from)}, api.Fault{Code: api.ErrUnlike, At: api.Spot{Off: 5, Line: 1, Col: 6}}},
		{[]api.Gen{gen("1", unknown)}, api.Fault{Code: api.ErrUnlike, At: api.Spot{Off: 5, Line: 1, Col: 6}}},
		{[]api.Gen{gen(strings.Repeat("x", 33), from)}, api.Fault{Code: api.ErrUnlike, At: api.Spot{Off: 5, Line: 1, Col: 6}}},
		{[]api.Gen{gen("x", unknown)}, api.Fault{Code: api.ErrUnknown, At: unknown.At}},
		{[]api.Gen{gen("x", wrong)}, api.Fault{Code: api.ErrUnlike, At: from.At}},
		{[]api.Gen{gen("x", wrong), gen("1", from)}, api.Fault{Code: api.ErrUnlike, At: from.At}},
		{[]api.Gen{gen("x", from), gen("1", wrong)}, api.Fault{Code: api.ErrUnlike, At: api.Spot{Off: 5, Line: 1, Col: 6}}},
		{[]api.Gen{gen("z", from), gen("x", of(api.EList, unknown))}, api.Fault{}},
	} {
		a := api.Auto{Mode: api.MLinear, Arg: so("int"), Reply: so("int"), State: so("int"), Start: number(0)}
		a.Rules = []api.Rule{{Gens: x.gens, When: boolean1(), Give: number(1), Next: number(2)}}
		if f := sorts.Auto(a); f != x.want || f != modelAuto(a) {
			t.Errorf("%+v: %+v", x.gens, f)
		}
	}
}

func TestAutoRows(t *testing.T) {
	head := map[api.Mode]string{
		api.MLinear: "table A linear arg int reply (int, bool) state list int start [] { ", api.MSet: "table A set arg int reply (int, bool) state list int start [] { ", api.MInterval: "table A interval arg int reply (int, bool) state list int start [] { ",
	}
	const l, s, i, all = 1 << api.MLinear, 1 << api.MSet, 1 << api.MInterval, 1<<api.MLinear | 1<<api.MSet | 1<<api.MInterval
	for row, modes := range map[string]int{
		"row [] { a f 1 } gives { a (1, true) } next [1];":                                        all,
		"row [1, 2] { true true' 1 } gives { true (1, true) } next [];":                           all,
		"row #a { a f 1 } gives { a (1, true) } next [1];":                                        0,
		"row [true] { a f 1 } gives { a (1, true) } next [1];":                                    0,
		"row {} { a f 1 } gives { a (1, true) } next [1];":                                        0,
		"row [] { a f 1 } gives { a (1, true) } next 1;":                                          0,
		"row [] { a f 1 } gives { a (1, true) } next [[]];":                                       0,
		"row [] { a true 1 } gives { a (1, true) } next [1];":                                     0,
		"row [] { a false 1 } gives { a (1, true) } next [1];":                                    0,
		"row [] { a f true } gives { a (1, true) } next [1];":                                     0,
		"row [] { a f () } gives { a (1, true) } next [1];":                                       0,
		"row [] { a f 1 } gives { a 1 } next [1];":                                                0,
		"row [] { a f 1 } gives { a (true, 1) } next [1];":                                        0,
		"row [] { a f 1 } gives { b (1, true) } next [1];":                                        0,
		"row [] { a f 1 } gives { f (1, true) } next [1];":                                        0,
		"row [] { a f 1 } gives { a (1, true), a (1, true) } next [1];":                           0,
		"row [] { a f 1 } gives { a (1, true), b (1, true) } next [1];":                           0,
		"row [] { a f 1, b g 1 } gives { a (1, true), b (0, true) } next [1];":                    s | i,
		"row [] { a f 1, b g 1 } gives { b (1, true), a (0, true) } next [1];":                    s | i,
		"row [] { a f 1, b f 1 } gives { b (1, true) } next [1];":                                 i,
		"row [] { a f 1, b f 1, c f 1 } gives { a (1, true), c (1, true) } next [1];":             i,
		"row [] { a f 1, a g 2 } gives { a (1, true) } next [1];":                                 0,
		"row [] { a f 1, a g 2 } gives { a (1, true), a (1, true) } next [1];":                    0,
		"row [] { a f 1, b f 1 } gives { a (1, true), a (1, true) } next [1];":                    0,
		"row [] { a f 1, b f #a } gives { a (1, true), b (1, true) } next [1];":                   0,
		"row [] { a f 1, b false 1 } gives { a (1, true), b (1, true) } next [1];":                0,
		"row [] { a f 1, b f 1 } gives { a (1, true), b 1 } next [1];":                            0,
		"row [] { a f 1, b f 1, c f 1 } gives { a (1, true), b (1, true), d (1, true) } next [];": 0,
	} {
		for mode, start := range head {
			code := api.OK
			mark := ""
			if modes&(1<<mode) == 0 {
				code, mark = api.ErrRow, "@"
			}
			holdSpec(t, start+mark+row+" }", code)
			// Behind rows that may be, and ahead of others that may not.
			holdSpec(t, start+"row [] { a f 1 } gives { a (1, true) } next [1]; "+mark+row+" "+row+" }", code)
		}
	}
	holdSpec(t, "table A linear arg int reply int state list int start @true { row 1 { a f 1 } gives { a 1 } next 0; }", api.ErrUnlike)
	holdSpec(t, "table A linear arg int reply int state (list int, set int) start ([], {}) { row ([], {}) { a f 1 } gives { a 1 } next ([1], {}); @row ({}, []) { a f 1 } gives { a 1 } next ([], {}); }", api.ErrRow)
}

// Rows that no text has.
func TestAutoRowsOfNoText(t *testing.T) {
	one := integer(1)
	right := func() api.Row {
		return api.Row{At: api.Spot{Off: 3, Line: 1, Col: 4}, From: one, Calls: []api.RowCall{{Who: "", Op: "f", Arg: one}}, Replies: []api.RowReply{{Who: "", Value: one}}, To: one}
	}
	for i, spoil := range []func(r *api.Row){
		func(r *api.Row) { r.Calls = nil },
		func(r *api.Row) { r.Calls, r.Replies = nil, nil },
		func(r *api.Row) { r.Replies = nil },
		func(r *api.Row) { r.Calls[0].Op = "" },
		func(r *api.Row) { r.Calls[0].Op = "1" },
		func(r *api.Row) { r.Calls[0].Op = "true" },
		func(r *api.Row) { r.Calls[0].Op = strings.Repeat("f", 33) },
		func(r *api.Row) { r.From = api.Value{} },
		func(r *api.Row) { r.To = api.Value{Kind: api.KInt, Im: 1} },
		func(r *api.Row) { r.Calls[0].Arg = api.Value{Kind: api.KInt, Text: "a"} },
		func(r *api.Row) { r.Replies[0].Value = api.Value{Kind: api.KInt, Items: []api.Value{one}} },
		func(r *api.Row) { r.From = selfValue() },
		func(r *api.Row) { r.Calls[0].Who = "a" },
		func(r *api.Row) { r.Replies[0].Who = "a" },
	} {
		for mode := api.MLinear; mode <= api.MInterval; mode++ {
			r := right()
			a := api.Auto{Mode: mode, Arg: so("int"), Reply: so("int"), State: so("int"), Start: number(0), Table: true, Rows: []api.Row{right(), r}}
			// Who may have any text.
			if f := sorts.Auto(a); f != (api.Fault{}) {
				t.Error(f)
			}
			spoil(&a.Rows[1])
			if f := sorts.Auto(a); f != (api.Fault{Code: api.ErrRow, At: r.At}) || f != modelAuto(a) {
				t.Error(i, f)
			}
		}
	}
}

func TestSpec(t *testing.T) {
	auto := func(name string) string {
		return "automaton " + name + " set arg int reply int state int start 0 { } "
	}
	for s, code := range map[string]api.Errno{
		auto("A") + auto("B") + "object x is A; object y is A; object z is B;":                 api.OK,
		"object x is A; " + auto("A"):                                                          api.OK,
		"@object x is A;":                                                                      api.ErrNoAuto,
		auto("A") + "object x is A; @object y is B;":                                           api.ErrNoAuto,
		auto("A") + "object x is A; @object x is A;":                                           api.ErrAgain,
		auto("A") + "object x is A; @object x is B;":                                           api.ErrAgain,
		auto("A") + "@object x is a; object x is A;":                                           api.ErrNoAuto,
		auto("A") + auto("B") + "@" + auto("A"):                                                api.ErrAgain,
		auto("A") + "@table A set arg int reply int state int start true { }":                  api.ErrAgain,
		auto("B") + "automaton A set arg int reply int state int start @true { } " + auto("A"): api.ErrUnlike,
		"object x is C; object x is C; " + auto("A") + "@" + auto("A"):                         api.ErrAgain,
		"object x is C; " + auto("A") + "table T set arg int reply int state int start 0 { @row 0 { a f 1, b f 1 } gives { a 1 } next 0; }": api.ErrRow,
		"object A is B; object B is A; " + auto("B") + auto("A"):                                                                            api.OK,
	} {
		holdSpec(t, s, code)
	}
	// Names of automata and of objects may have any text.
	a := parsed(t, syntax.Parse, auto("A")).Autos[0]
	a.Name = ""
	s := api.Spec{Autos: []api.Auto{a}, Binds: []api.Bind{{Object: "1 2", Auto: ""}, {Object: "", Auto: ""}}}
	if f := checked(t, s); f != (api.Fault{}) {
		t.Error(f)
	}
	if f := sorts.Spec(api.Spec{Autos: []api.Auto{{}}}); f.Code != api.ErrUnlike {
		t.Error(f)
	}
}

// auto answers an automaton by chance in which nothing is wrong, most often.
func (g *gen) auto() api.Auto {
	a := api.Auto{Name: pick(g.rnd, []string{"A", "B", "C"}), Mode: api.Mode(1 + g.rnd.Intn(3)), Arg: g.someSort(), Reply: g.someSort(), State: g.someSort(), Table: g.rnd.Intn(2) == 0}
	a.Start = g.of(a.State, 2)
	scope, gives := g.bind("state", a.State), a.Reply
	if a.Mode == api.MLinear {
		scope = scope.bind("proc", so("symbol")).bind("op", so("symbol")).bind("arg", a.Arg)
	} else {
		scope, gives = scope.bind("calls", setOf(tupleOf(so("symbol"), so("symbol"), a.Arg))), setOf(tupleOf(so("symbol"), a.Reply))
	}
	for range g.rnd.Intn(3) {
		if a.Table {
			a.Rows = append(a.Rows, g.row(a))
		} else {
			a.Rules = append(a.Rules, scope.rule(gives, a.State))
		}
	}
	return a
}

func (g *gen) rule(gives, state api.Sort) api.Rule {
	var r api.Rule
	for range g.rnd.Intn(3) {
		row := sortOf(pick(g.rnd, []api.SortKind{api.SList, api.SSet}), g.someSort())
		n := g.name()
		r.Gens = append(r.Gens, api.Gen{Name: n, From: g.of(row, 2)})
		g = g.bind(n, row.Items[0])
	}
	r.When, r.Give, r.Next = g.of(so("bool"), 2), g.of(gives, 2), g.of(state, 2)
	return r
}

func (g *gen) row(a api.Auto) api.Row {
	r := api.Row{From: anyOf(g.rnd, a.State), To: anyOf(g.rnd, a.State)}
	count := 1
	if a.Mode != api.MLinear {
		count += g.rnd.Intn(3)
	}
	for _, who := range []string{"a", "b", "c"}[:count] {
		r.Calls = append(r.Calls, api.RowCall{Who: who, Op: pick(g.rnd, []string{"f", "g"}), Arg: anyOf(g.rnd, a.Arg)})
		if a.Mode != api.MInterval || who == "a" || g.rnd.Intn(2) == 0 {
			r.Replies = append(r.Replies, api.RowReply{Who: who, Value: anyOf(g.rnd, a.Reply)})
		}
	}
	return r
}

// spoilAuto changes one thing of an automaton by chance.
func (g *gen) spoilAuto(a *api.Auto) {
	sort := pick(g.rnd, []*api.Sort{&a.Arg, &a.Reply, &a.State})
	switch g.rnd.Intn(8) {
	case 0:
		a.Mode = api.Mode(g.rnd.Intn(6) - 1)
	case 1:
		*sort = anySort(g.rnd, api.SNone, 2)
	case 2:
		a.Table = !a.Table
	case 3:
		g.spoil(&a.Start)
	case 4, 5:
		for i := range a.Rules {
			r := &a.Rules[i]
			places := []*api.Expr{&r.When, &r.Give, &r.Next}
			for j := range r.Gens {
				places = append(places, &r.Gens[j].From)
			}
			g.spoil(pick(g.rnd, places))
		}
	default:
		for i := range a.Rows {
			r := &a.Rows[i]
			c, p := &r.Calls[g.rnd.Intn(len(r.Calls))], &r.Replies[g.rnd.Intn(len(r.Replies))]
			v := pick(g.rnd, []*api.Value{&r.From, &r.To, &c.Arg, &p.Value})
			switch g.rnd.Intn(5) {
			case 0:
				*v = anyValue(g.rnd, 2)
			case 1:
				c.Who = pick(g.rnd, []string{"a", "b", "d"})
			case 2:
				p.Who = pick(g.rnd, []string{"a", "b", "d"})
			case 3:
				c.Op = pick(g.rnd, []string{"true", "h", ""})
			case 4:
				r.Replies = r.Replies[1:]
			}
		}
	}
}

// placeSpec gives all that has a spot one of its own.
func placeSpec(s *api.Spec) {
	next := 0
	spot := func(at *api.Spot) {
		next++
		*at = api.Spot{Off: next, Line: 1, Col: next + 1}
	}
	for i := range s.Autos {
		a := &s.Autos[i]
		spot(&a.At)
		place(&a.Start, &next)
		for j := range a.Rules {
			r := &a.Rules[j]
			spot(&r.At)
			for k := range r.Gens {
				spot(&r.Gens[k].At)
				place(&r.Gens[k].From, &next)
			}
			place(&r.When, &next)
			place(&r.Give, &next)
			place(&r.Next, &next)
		}
		for j := range a.Rows {
			spot(&a.Rows[j].At)
		}
	}
	for i := range s.Binds {
		spot(&s.Binds[i].At)
	}
}

func TestSpecByChance(t *testing.T) {
	rnd := rand.New(rand.NewSource(9))
	codes := map[api.Errno]int{}
	for range 4000 {
		g := &gen{rnd: rnd}
		s := api.Spec{Autos: many(rnd, 0, 3, g.auto)}
		for i := range s.Autos {
			if rnd.Intn(4) > 0 {
				s.Autos[i].Name = string(rune('A' + i))
			}
			if rnd.Intn(3) == 0 {
				g.spoilAuto(&s.Autos[i])
			}
		}
		s.Binds = many(rnd, 0, 2, func() api.Bind {
			return api.Bind{Object: pick(rnd, []string{"x", "y", "z"}), Auto: pick(rnd, []string{"A", "B", "C"})}
		})
		placeSpec(&s)
		codes[checked(t, s).Code]++
	}
	for _, code := range []api.Errno{api.OK, api.ErrUnlike, api.ErrUnknown, api.ErrAgain, api.ErrRow, api.ErrNoAuto} {
		if codes[code] < 15 {
			t.Error("too few:", code, codes)
		}
	}
}
