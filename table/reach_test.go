package table_test

import (
	"slices"
	"testing"

	"sextant/api"
	"sextant/table"
)

// P14.4

func TestReach(t *testing.T) {
	ahead := func(state, start string) string {
		return "table T linear arg int reply int state " + state + " start " + start + " { "
	}
	row := func(from, to string) string {
		return "row " + from + " { a f 1 } gives { a 1 } next " + to + "; "
	}
	for _, x := range []struct{ table, want string }{
		{ahead("int", "7") + "}", "7"},
		{ahead("int", "1 + 2 * 3") + "}", "7"},
		{ahead("int", "0") + row("0", "0") + "}", "0"},
		{ahead("int", "0") + row("1", "2") + "}", "0"},
		{ahead("int", "2") + row("1", "2") + row("2", "-1") + "}", "-1; 2"},
		// Whatever the order of the rows is; round and round.
		{ahead("int", "0") + row("3", "9") + row("2", "3") + row("1", "2") + row("0", "1") + row("9", "0") + row("5", "6") + "}", "0; 1; 2; 3; 9"},
		{ahead("int", "0") + row("0", "5") + row("0", "4") + row("0", "5") + row("4", "3") + row("5", "3") + "}", "0; 3; 4; 5"},
		{ahead("list int", "push([], 1)") + row("[1]", "[2, 2]") + row("[1]", "[3]") + row("[3]", "[]") + row("[2]", "[9]") + "}", "[]; [1]; [3]; [2, 2]"},
		{ahead("set int", "{2, 1, 2}") + row("{1, 2, 1}", "{3, 1}") + row("{1, 3}", "{}") + row("{3}", "{9}") + "}", "{}; {1, 2}; {1, 3}"},
		{ahead("(symbol, bool)", "(#a, 1 == 1)") + row("(#a, true)", "(#a, false)") + row("(#b, true)", "(#c, false)") + "}", "(a, false); (a, true)"},
		{ahead("gauss", "gauss(0, 1)") + row("gauss(0, 1)", "gauss(-1, 0)") + row("gauss(1, 0)", "gauss(1, 1)") + "}", "-1+0i; 0+1i"},
		// A start without a value: stuck, or with too much work.
		{ahead("int", "head([])") + row("0", "1") + "}", ""},
		{ahead("int", "1 / 0") + row("0", "1") + "}", ""},
		{ahead("int", "at([1], 1)") + row("1", "1") + "}", ""},
		{ahead("int", "fold x, a over range(0, 4000) from 0 with fold y, b over range(0, 9) from a with b") + row("0", "1") + "}", ""},
		{ahead("int", "if true then 4 else head([])") + row("4", "1") + "}", "1; 4"},
		// Whatever the calls and the replies of rows are.
		{"table T interval arg int reply int state int start 0 { row 0 { a f 1, b f 2, c g 3 } gives { b 1 } next 1; row 1 { a f 1, b f 1, c f 1, d f 1, e f 1, g f 1, h f 1, i f 1, j f 1, k f 1, l f 1 } gives { a 1 } next 2; row 2 { a f 1 } gives { a 1 } next 3; }", "0; 1; 2; 3"},
	} {
		holdReach(t, tableOf(t, x.table), x.want)
	}
}

// TestReachLong: a row of as many states as rows, which stand in it from the last one on, and twice.
func TestReachLong(t *testing.T) {
	a := tableOf(t, "table T linear arg int reply int state (int, list int) start (0, []) { }")
	const n = 20000
	state := func(i int) api.Value {
		v := rowOf(api.KTuple, integer(int64(i)), rowOf(api.KList))
		if i > 0 {
			v.Items[1] = rowOf(api.KList, integer(int64(-i)))
		}
		return v
	}
	for i := n - 1; i >= 0; i-- {
		row := likeRow(0, 1)
		row.From, row.To = state(i), state(i+1)
		a.Rows = append(a.Rows, row, row)
	}
	got, errno := table.Reach(a)
	if errno != api.OK || len(got) != n+1 {
		t.Fatal(errno, len(got))
	}
	for i, v := range got {
		if !sameValue(v, state(i)) {
			t.Fatal(i, v)
		}
	}
	fresh(t, listsOfValues(got), listsHandedIn(a, api.Value{}, nil))
	if again, _ := table.Reach(a); !slices.EqualFunc(got, again, sameValue) {
		t.Error("another answer")
	}
}
