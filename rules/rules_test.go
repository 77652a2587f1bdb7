package rules_test

import (
	"fmt"
	"slices"
	"strings"
	"testing"

	"sextant/api"
	"sextant/rules"
)

// P15.1, and what is wrong in P15.2

const register = "automaton register linear arg int reply int state int start 0 { rule read when op == #read give state next state; rule write when op == #write give 0 next arg; }"

const exchanger = "automaton exchanger set arg int reply int state int start 0 { rule swap for x in calls, y in calls when size(calls) == 2 and x.0 < y.0 give {(x.0, y.2), (y.0, x.2)} next state; rule alone when size(calls) == 1 give fold c, s over calls from {} with s | {(c.0, -1)} next state; }"

func TestExamples(t *testing.T) {
	a := autoOf(t, register)
	holds(t, a, "5", "p read 0", "p 5 -> 5")
	holds(t, a, "5", "p write 7", "p 0 -> 7")
	holds(t, a, "5", "p halt 7", "")
	a = autoOf(t, exchanger)
	holds(t, a, "3", "a exchange 7; b exchange 8", "a 8, b 7 -> 3")
	holds(t, a, "3", "a exchange 7; b swop 7", "a 7, b 7 -> 3")
	holds(t, a, "3", "a exchange 7", "a -1 -> 3")
	holds(t, a, "3", "a exchange 7; b exchange 8; c exchange 9", "")
}

// procs answers a class of so many like calls.
func procs(n int, op string, arg api.Value) []api.Ask {
	var class []api.Ask
	for i := range n {
		class = append(class, ask(fmt.Sprintf("p%02d", i), op, arg))
	}
	return class
}

func TestRightClass(t *testing.T) {
	one := integer(1)
	long := strings.Repeat("é", 32)
	for _, x := range []struct {
		class []api.Ask
		ok    bool
	}{
		{nil, false},
		{[]api.Ask{}, false},
		{[]api.Ask{ask("p", "f", one)}, true},
		{[]api.Ask{ask("p", "p", one)}, true},
		{[]api.Ask{{}}, false},
		{[]api.Ask{ask("p", "f", one), ask("q", "f", one)}, true},
		{[]api.Ask{ask("p", "f", one), ask("p", "f", one)}, false},
		{[]api.Ask{ask("p", "f", one), ask("p", "g", integer(2))}, false},
		{[]api.Ask{ask("q", "f", one), ask("p", "g", one)}, false},
		{[]api.Ask{ask("p", "f", one), ask("r", "f", one), ask("q", "f", one)}, false},
		{[]api.Ask{ask("p", "f", one), ask("r", "f", one), ask("r", "f", one)}, false},
		// By bytes: capitals, then _, then small letters, then all others; a beginning ahead of what goes on.
		{[]api.Ask{ask("P", "f", one), ask("Z", "f", one), ask("_", "f", one), ask("a", "f", one), ask("à", "f", one), ask("ω", "f", one)}, true},
		{[]api.Ask{ask("a", "f", one), ask("Z", "f", one)}, false},
		{[]api.Ask{ask("à", "f", one), ask("z", "f", one)}, false},
		{[]api.Ask{ask("p", "f", one), ask("p'", "f", one), ask("p10", "f", one), ask("p2", "f", one)}, true},
		{[]api.Ask{ask("p2", "f", one), ask("p10", "f", one)}, false},
		{[]api.Ask{ask(long, "f", one)}, true},
		{[]api.Ask{ask("p", long, one)}, true},
		{[]api.Ask{ask(long+"é", "f", one)}, false},
		{[]api.Ask{ask("p", long+"é", one)}, false},
		{[]api.Ask{ask("true", "f", one)}, false},
		{[]api.Ask{ask("false", "f", one)}, false},
		{[]api.Ask{ask("p", "true", one)}, false},
		{[]api.Ask{ask("p", "false", one)}, false},
		{[]api.Ask{ask("true'", "falsely", one)}, true},
		{[]api.Ask{ask("if", "next", one)}, true},
		{[]api.Ask{ask("", "f", one)}, false},
		{[]api.Ask{ask("p", "", one)}, false},
		{[]api.Ask{ask("1", "f", one)}, false},
		{[]api.Ask{ask("p", "1", one)}, false},
		{[]api.Ask{ask("p q", "f", one)}, false},
		{[]api.Ask{ask("p\xff", "f", one)}, false},
		{[]api.Ask{ask("p", "f\xff", one)}, false},
		{[]api.Ask{ask("p", "f", api.Value{})}, false},
		{[]api.Ask{ask("p", "f", symbol("x"))}, false},
		{[]api.Ask{ask("p", "f", api.Value{Kind: api.KBool, Int: 1})}, false},
		{[]api.Ask{ask("p", "f", api.Value{Kind: api.KInt, Text: "x"})}, false},
		{[]api.Ask{ask("p", "f", rowOf(api.KList, one))}, false},
		{[]api.Ask{ask("p", "f", loop())}, false},
		{[]api.Ask{ask("p", "f", one), ask("q", "f", symbol("x"))}, false},
		{[]api.Ask{ask("p", "f", one), ask("q", "true", one)}, false},
		{[]api.Ask{ask("p", "f", one), ask("q ", "f", one)}, false},
		{procs(10, "f", one), true},
		{procs(11, "f", one), false},
		{procs(64, "f", one), false},
	} {
		for mode, give := range map[string]string{"linear": "arg", "set": "fold c, s over calls from {} with s | {(c.0, 0)}", "interval": "{(#me, 1)}"} {
			a := autoOf(t, "automaton A "+mode+" arg int reply int state int start 0 { rule r give "+give+" next 0; }")
			ok := x.ok && (len(x.class) == 1 || mode != "linear")
			got, errno := looked(t, a, integer(0), x.class)
			want := map[bool]api.Errno{true: api.OK, false: api.ErrArg}[ok]
			if rules.Right(a, integer(0), x.class) != ok || errno != want || (len(got) == 1) != ok {
				t.Errorf("%s: %d, %v, want %t", shown(a, integer(0), x.class), errno, got, ok)
			}
		}
	}
}

func TestRightState(t *testing.T) {
	for sort, fit := range map[string]string{
		"int":               "0|-5|9223372036854775807",
		"bool":              "true|false",
		"symbol":            "x",
		"gauss":             "1+2i",
		"()":                "()",
		"(int, bool)":       "(1, true)",
		"list int":          "[]|[1]|[2, 1, 1]",
		"set (int, symbol)": "{}|{(1, x)}",
		"list set bool":     "[]|[{}]|[{true}]",
	} {
		a := autoOf(t, "automaton A interval arg int reply "+sort+" state "+sort+" start head([]) { rule r give {(#z, state)} next state; }")
		for _, s := range []string{"0", "-5", "9223372036854775807", "true", "false", "x", "1+2i", "()", "(1, true)", "(1, 1)", "(1,)", "[]", "[1]", "[2, 1, 1]", "[x]", "[1, x]", "{}", "{(1, x)}", "{(1, 1)}", "[{}]", "[{true}]", "[[]]"} {
			want, errno := "", api.ErrArg
			if slices.Contains(strings.Split(fit, "|"), s) {
				want, errno = "z "+s+" -> "+s, api.OK
			}
			if got, e := looked(t, a, valueOf(t, s), procs(2, "f", integer(0))); e != errno || said(t, got) != want {
				t.Errorf("%s, %s: %d, %v", sort, s, e, got)
			}
		}
		for _, v := range []api.Value{{}, {Kind: 9}, loop(), rowOf(api.KSet, integer(2), integer(1)), {Kind: api.KBool, Int: 2}, symbol("true")} {
			if _, errno := looked(t, a, v, procs(2, "f", integer(0))); errno != api.ErrArg {
				t.Errorf("%s, %+v: %d", sort, cut(v, 20), errno)
			}
		}
	}
}

// TestNoRules: automata that are none, or have a fault. No state and no class comes ahead of that.
func TestNoRules(t *testing.T) {
	right := autoOf(t, exchanger)
	spoil := func(f func(a *api.Auto)) api.Auto {
		a := autoOf(t, exchanger)
		f(&a)
		return a
	}
	wrong := []api.Auto{
		{},
		{Table: true},
		spoil(func(a *api.Auto) { a.Table = true }),
		spoil(func(a *api.Auto) { a.Table, a.Rules = true, nil }),
		autoOf(t, "table S set arg int reply int state int start 0 { row 0 { a swap 1, b swap 2 } gives { a 2, b 1 } next 0; }"),
		spoil(func(a *api.Auto) { a.Rows = []api.Row{{}} }),
		spoil(func(a *api.Auto) { a.Mode = 0 }),
		spoil(func(a *api.Auto) { a.Mode = 4 }),
		spoil(func(a *api.Auto) { a.Mode = api.MLinear }),
		spoil(func(a *api.Auto) { a.Arg = api.Sort{} }),
		spoil(func(a *api.Auto) { a.Reply = api.Sort{Kind: api.SBool} }),
		spoil(func(a *api.Auto) { a.State = api.Sort{Kind: api.SList} }),
		spoil(func(a *api.Auto) { a.Start = api.Expr{} }),
		spoil(func(a *api.Auto) { a.Start = api.Expr{Kind: api.ELit, Value: symbol("x")} }),
		spoil(func(a *api.Auto) { a.Start = api.Expr{Kind: api.EName, Name: "state"} }),
		spoil(func(a *api.Auto) { a.Rules[0].Gens[0].Name = "" }),
		spoil(func(a *api.Auto) { a.Rules[0].Gens[0].Name = "z" }),
		spoil(func(a *api.Auto) { a.Rules[0].Gens[0].From = a.Rules[0].When }),
		spoil(func(a *api.Auto) { a.Rules[0].Gens[0].From.Name = "y" }),
		spoil(func(a *api.Auto) { a.Rules[1].When = a.Rules[1].Next }),
		spoil(func(a *api.Auto) { a.Rules[1].When = api.Expr{} }),
		spoil(func(a *api.Auto) { a.Rules[1].Give = a.Rules[1].Next }),
		spoil(func(a *api.Auto) { a.Rules[1].Next = a.Rules[1].When }),
		spoil(func(a *api.Auto) { a.Rules[1].Next.Name = "arg" }),
	}
	for i, a := range append(wrong, right) {
		want := api.ErrRules
		if i == len(wrong) {
			want = api.OK
		}
		if _, errno := looked(t, a, integer(0), procs(2, "swap", integer(1))); errno != want {
			t.Errorf("%d: %d", i, errno)
		}
		if want == api.OK {
			want = api.ErrArg
		}
		if _, errno := looked(t, a, symbol("x"), procs(2, "swap", integer(1))); errno != want {
			t.Errorf("no state, %d: %d", i, errno)
		}
		if _, errno := looked(t, a, integer(0), nil); errno != want {
			t.Errorf("no class, %d: %d", i, errno)
		}
		if _, errno := looked(t, a, loop(), procs(11, "", loop())); errno != want {
			t.Errorf("neither, %d: %d", i, errno)
		}
	}
}

// TestLoops: what lies within itself ends, too.
func TestLoops(t *testing.T) {
	class := procs(2, "swap", integer(1))
	items := make([]api.Expr, 1)
	items[0] = api.Expr{Kind: api.EUnary, Op: "-", Items: items}
	for i, f := range []func(a *api.Auto){
		func(a *api.Auto) { a.Start = items[0] },
		func(a *api.Auto) { a.Rules[0].Gens[1].From = items[0] },
		func(a *api.Auto) { a.Rules[1].When = items[0] },
		func(a *api.Auto) { a.Rules[1].Give = items[0] },
		func(a *api.Auto) { a.Rules[1].Next = items[0] },
		func(a *api.Auto) { a.Rules[1].Next = api.Expr{Kind: api.ELit, Value: loop()} },
		func(a *api.Auto) {
			a.State = api.Sort{Kind: api.SList, Items: make([]api.Sort, 1)}
			a.State.Items[0] = a.State
		},
	} {
		a := autoOf(t, exchanger)
		f(&a)
		if got, errno := rules.Outcomes(a, integer(0), class); errno != api.ErrRules || got != nil || rules.Right(a, integer(0), class) {
			t.Error(i, errno, got)
		}
	}
	if got, errno := rules.Outcomes(autoOf(t, exchanger), loop(), class); errno != api.ErrArg || got != nil {
		t.Error(errno, got)
	}
}
