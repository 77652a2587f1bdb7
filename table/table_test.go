package table_test

import (
	"fmt"
	"slices"
	"strings"
	"testing"

	"sextant/api"
	"sextant/table"
)

// P14.1, and what is wrong in P14.2 and P14.4

const swaps = "table S set arg int reply int state int start 0 { row 0 { a swap 1, b swap 2 } gives { a 2, b 1 } next 0; row 0 { a swap 1, b swap 1 } gives { a 1, b 0 } next 3; }"

func TestExamples(t *testing.T) {
	a := tableOf(t, swaps)
	holds(t, a, "0", "p swap 2; q swap 1", "p 1, q 2 -> 0")
	holds(t, a, "0", "p swap 1; q swap 2", "p 2, q 1 -> 0")
	holds(t, a, "0", "p swap 1; q swap 1", "p 0, q 1 -> 3; p 1, q 0 -> 3")
	holds(t, a, "0", "p swap 2; q swap 2", "")
	holds(t, a, "0", "p swap 1", "")
	holds(t, a, "0", "p swap 1; q swap 1; r swap 1", "")
	holds(t, a, "0", "p swop 1; q swap 1", "")
	holds(t, a, "1", "p swap 2; q swap 1", "")
	holds(t, a, "3", "p swap 1; q swap 1", "")
	holdReach(t, a, "0; 3")
}

func holdReach(t *testing.T, a api.Auto, want string) {
	t.Helper()
	got, errno := gone(t, a)
	if s := saidValues(t, got); errno != api.OK || s != want {
		t.Errorf("%q, %d; want %q", s, errno, want)
	}
}

// procs answers a class of so many like calls.
func procs(n int, op string, arg api.Value) []api.Ask {
	var class []api.Ask
	for i := range n {
		class = append(class, ask(fmt.Sprintf("p%02d", i), op, arg))
	}
	return class
}

func TestRightClass(t *testing.T) {
	one := integer(1)
	long := strings.Repeat("é", 32)
	a := tableOf(t, swaps)
	for _, x := range []struct {
		class []api.Ask
		ok    bool
	}{
		{nil, false},
		{[]api.Ask{}, false},
		{[]api.Ask{ask("p", "f", one)}, true},
		{[]api.Ask{ask("p", "p", one)}, true},
		{[]api.Ask{{}}, false},
		{[]api.Ask{ask("p", "f", one), ask("q", "f", one)}, true},
		{[]api.Ask{ask("p", "f", one), ask("p", "f", one)}, false},
		{[]api.Ask{ask("p", "f", one), ask("p", "g", integer(2))}, false},
		{[]api.Ask{ask("q", "f", one), ask("p", "g", one)}, false},
		{[]api.Ask{ask("p", "f", one), ask("r", "f", one), ask("q", "f", one)}, false},
		{[]api.Ask{ask("p", "f", one), ask("r", "f", one), ask("r", "f", one)}, false},
		// By bytes: capitals, then _, then small letters, then all others; a beginning ahead of what goes on.
		{[]api.Ask{ask("P", "f", one), ask("Z", "f", one), ask("_", "f", one), ask("a", "f", one), ask("à", "f", one), ask("ω", "f", one)}, true},
		{[]api.Ask{ask("a", "f", one), ask("Z", "f", one)}, false},
		{[]api.Ask{ask("à", "f", one), ask("z", "f", one)}, false},
		{[]api.Ask{ask("p", "f", one), ask("p'", "f", one), ask("p10", "f", one), ask("p2", "f", one)}, true},
		{[]api.Ask{ask("p2", "f", one), ask("p10", "f", one)}, false},
		{[]api.Ask{ask(long, "f", one)}, true},
		{[]api.Ask{ask("p", long, one)}, true},
		{[]api.Ask{ask(long+"é", "f", one)}, false},
		{[]api.Ask{ask("p", long+"é", one)}, false},
		{[]api.Ask{ask("true", "f", one)}, false},
		{[]api.Ask{ask("false", "f", one)}, false},
		{[]api.Ask{ask("p", "true", one)}, false},
		{[]api.Ask{ask("p", "false", one)}, false},
		{[]api.Ask{ask("true'", "falsely", one)}, true},
		{[]api.Ask{ask("if", "next", one)}, true},
		{[]api.Ask{ask("", "f", one)}, false},
		{[]api.Ask{ask("p", "", one)}, false},
		{[]api.Ask{ask("1", "f", one)}, false},
		{[]api.Ask{ask("p", "1", one)}, false},
		{[]api.Ask{ask("p q", "f", one)}, false},
		{[]api.Ask{ask("p\xff", "f", one)}, false},
		{[]api.Ask{ask("p", "f\xff", one)}, false},
		{[]api.Ask{ask("p", "f", api.Value{})}, false},
		{[]api.Ask{ask("p", "f", symbol("x"))}, false},
		{[]api.Ask{ask("p", "f", api.Value{Kind: api.KBool, Int: 1})}, false},
		{[]api.Ask{ask("p", "f", api.Value{Kind: api.KInt, Text: "x"})}, false},
		{[]api.Ask{ask("p", "f", rowOf(api.KList, one))}, false},
		{[]api.Ask{ask("p", "f", loop())}, false},
		{[]api.Ask{ask("p", "f", one), ask("q", "f", symbol("x"))}, false},
		{[]api.Ask{ask("p", "f", one), ask("q", "true", one)}, false},
		{[]api.Ask{ask("p", "f", one), ask("q ", "f", one)}, false},
		{procs(10, "f", one), true},
		{procs(11, "f", one), false},
		{procs(64, "f", one), false},
	} {
		for mode := api.MLinear; mode <= api.MInterval; mode++ {
			a.Mode, a.Rows = mode, nil
			ok := x.ok && (len(x.class) == 1 || mode != api.MLinear)
			_, errno := looked(t, a, integer(0), x.class)
			if table.Right(a, integer(0), x.class) != ok || errno != map[bool]api.Errno{true: api.OK, false: api.ErrArg}[ok] {
				t.Errorf("%s: %d, want %t", shown(a, integer(0), x.class), errno, ok)
			}
		}
	}
}

func TestRightState(t *testing.T) {
	for sort, fit := range map[string]string{
		"int":               "0|-5|9223372036854775807",
		"bool":              "true|false",
		"symbol":            "x",
		"gauss":             "1+2i",
		"()":                "()",
		"(int, bool)":       "(1, true)",
		"list int":          "[]|[1]|[2, 1, 1]",
		"set (int, symbol)": "{}|{(1, x)}",
		"list set bool":     "[{}]|[{true}]",
	} {
		a := tableOf(t, "table T set arg int reply int state "+sort+" start head([]) { }")
		for _, s := range []string{"0", "-5", "9223372036854775807", "true", "false", "x", "1+2i", "()", "(1, true)", "(1, 1)", "(1,)", "[]", "[1]", "[2, 1, 1]", "[x]", "[1, x]", "{}", "{(1, x)}", "{(1, 1)}", "[{}]", "[{true}]", "[[]]"} {
			ok := slices.Contains(strings.Split(fit, "|"), s) || s == "[]" && strings.HasPrefix(sort, "list") || s == "{}" && strings.HasPrefix(sort, "set")
			if _, errno := looked(t, a, valueOf(t, s), procs(2, "f", integer(0))); (errno == api.OK) != ok {
				t.Errorf("%s, %s: %d", sort, s, errno)
			}
		}
		for _, v := range []api.Value{{}, {Kind: 9}, loop(), rowOf(api.KSet, integer(2), integer(1)), {Kind: api.KBool, Int: 2}, symbol("true")} {
			if _, errno := looked(t, a, v, procs(2, "f", integer(0))); errno != api.ErrArg {
				t.Errorf("%s, %+v: %d", sort, cut(v, 20), errno)
			}
		}
	}
}

// TestNoTables: automata that are none, or have a fault. No state and no class comes ahead of that.
func TestNoTables(t *testing.T) {
	right := tableOf(t, swaps)
	spoil := func(f func(a *api.Auto)) api.Auto {
		a := tableOf(t, swaps)
		f(&a)
		return a
	}
	wrong := []api.Auto{
		{},
		{Table: true},
		spoil(func(a *api.Auto) { a.Table = false }),
		spoil(func(a *api.Auto) { a.Table, a.Rows = false, nil }),
		tableOf(t, "automaton R linear arg int reply int state int start 0 { rule r give arg next state; }"),
		spoil(func(a *api.Auto) { a.Rules = []api.Rule{{}} }),
		spoil(func(a *api.Auto) { a.Mode = 0 }),
		spoil(func(a *api.Auto) { a.Mode = 4 }),
		spoil(func(a *api.Auto) { a.Mode = api.MLinear }),
		spoil(func(a *api.Auto) { a.Arg = api.Sort{} }),
		spoil(func(a *api.Auto) { a.Reply = api.Sort{Kind: api.SBool} }),
		spoil(func(a *api.Auto) { a.State = api.Sort{Kind: api.SList} }),
		spoil(func(a *api.Auto) { a.Start = api.Expr{} }),
		spoil(func(a *api.Auto) { a.Start = api.Expr{Kind: api.ELit, Value: symbol("x")} }),
		spoil(func(a *api.Auto) { a.Start = api.Expr{Kind: api.EName, Name: "state"} }),
		spoil(func(a *api.Auto) { a.Rows[1].From = symbol("x") }),
		spoil(func(a *api.Auto) { a.Rows[1].To = loop() }),
		spoil(func(a *api.Auto) { a.Rows[1].Calls = nil }),
		spoil(func(a *api.Auto) { a.Rows[1].Calls[1].Who = "a" }),
		spoil(func(a *api.Auto) { a.Rows[1].Calls[1].Op = "true" }),
		spoil(func(a *api.Auto) { a.Rows[1].Calls[1].Arg = api.Value{} }),
		spoil(func(a *api.Auto) { a.Rows[1].Replies[1].Who = "a" }),
		spoil(func(a *api.Auto) { a.Rows[1].Replies[1].Who = "c" }),
		spoil(func(a *api.Auto) { a.Rows[1].Replies[1].Value = symbol("x") }),
		spoil(func(a *api.Auto) { a.Rows[1].Replies = a.Rows[1].Replies[:1] }),
		spoil(func(a *api.Auto) { a.Mode, a.Rows[1].Replies = api.MInterval, nil }),
	}
	for i, a := range append(wrong, right) {
		want := api.ErrTable
		if i == len(wrong) {
			want = api.OK
		}
		if _, errno := gone(t, a); errno != want {
			t.Errorf("Reach, %d: %d", i, errno)
		}
		if _, errno := looked(t, a, integer(0), procs(2, "swap", integer(1))); errno != want {
			t.Errorf("Outcomes, %d: %d", i, errno)
		}
		if want == api.OK {
			want = api.ErrArg
		}
		if _, errno := looked(t, a, symbol("x"), procs(2, "swap", integer(1))); errno != want {
			t.Errorf("Outcomes of no state, %d: %d", i, errno)
		}
		if _, errno := looked(t, a, integer(0), nil); errno != want {
			t.Errorf("Outcomes of no class, %d: %d", i, errno)
		}
		if _, errno := looked(t, a, loop(), procs(11, "", loop())); errno != want {
			t.Errorf("Outcomes of neither, %d: %d", i, errno)
		}
	}
}

// TestLoops: what lies within itself ends, too.
func TestLoops(t *testing.T) {
	a := tableOf(t, swaps)
	items := make([]api.Expr, 1)
	items[0] = api.Expr{Kind: api.EUnary, Op: "-", Items: items}
	a.Start = items[0]
	if _, errno := table.Reach(a); errno != api.ErrTable {
		t.Error(errno)
	}
	if _, errno := table.Outcomes(a, loop(), nil); errno != api.ErrTable {
		t.Error(errno)
	}
	a = tableOf(t, swaps)
	a.State = api.Sort{Kind: api.SList, Items: make([]api.Sort, 1)}
	a.State.Items[0] = a.State
	if table.Right(a, integer(0), procs(2, "swap", integer(1))) {
		t.Error("a sort that is an item of itself")
	}
}
