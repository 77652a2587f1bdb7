package eval_test

import (
	"strings"
	"testing"

	"sextant/api"
	"sextant/eval"
)

// known is what names mean in the tests of texts.
func known(t *testing.T) scope {
	return means(t, "x", "1", "x", "2", "s", "{4, 5}", "l", "[6, 5, 6]", "t", "(7, true)", "b", "false", "z", "3-4i", "k", "a")
}

// cases are texts, each with what it comes to: a value's text, or an error.
type cases [][2]string

func (c cases) run(t *testing.T, s scope) {
	t.Helper()
	for _, row := range c {
		if got := told(t, parsed(t, row[0]), s); got != row[1] {
			t.Errorf("%s: %.99s, not %s", row[0], got, row[1])
		}
	}
}

func TestExamples(t *testing.T) {
	cases{
		{"1 + 2 * 3", "7"},
		{"if true then 1 else head([])", "1"},
		{"false and 1", "false"},
		{"true and 1", "sort"},
		{"1 and true", "sort"},
		{"head([])", "stuck"},
		{"fold x, acc over [1, 2, 3] from 0 with acc + x", "6"},
		{"let x = 1 do let x = 2 do x", "2"},
		{"fold x, acc over range(0, 4000) from 0 with fold y, s over range(0, 4000) from acc with s", "stuck"},
	}.run(t, scope{})
	cases{{"x", "2"}}.run(t, means(t, "x", "1", "x", "2"))
}

func TestArguments(t *testing.T) {
	one := number(1)
	bad := of(api.EIf)
	ok, wrong := integer(1), rowOf(api.KSet, integer(2), integer(1))
	for i, c := range []struct {
		e      api.Expr
		names  []string
		values []api.Value
		want   api.Errno
	}{
		{one, nil, nil, api.OK},
		{one, []string{}, nil, api.OK},
		{one, []string{"x"}, nil, api.ErrArg},
		{one, nil, []api.Value{ok}, api.ErrArg},
		{one, []string{"x", "y"}, []api.Value{ok}, api.ErrArg},
		{one, []string{"x"}, []api.Value{ok, ok}, api.ErrArg},
		{one, []string{"x", "y"}, []api.Value{ok, ok}, api.OK},
		{one, []string{"x", "y"}, []api.Value{ok, wrong}, api.ErrArg},
		{one, []string{"x", "y"}, []api.Value{wrong, ok}, api.ErrArg},
		{one, []string{"x"}, []api.Value{{}}, api.ErrArg},
		{one, []string{"", "1", "\xff"}, []api.Value{ok, ok, ok}, api.OK},
		{bad, nil, nil, api.ErrArg},
		{api.Expr{}, nil, nil, api.ErrArg},
		{lit(wrong), nil, nil, api.ErrArg},
		// ahead of all that an evaluation may meet
		{name("y"), []string{"x"}, nil, api.ErrArg},
		{call("head", of(api.EList)), []string{"x"}, []api.Value{wrong}, api.ErrArg},
		{of(api.EList, name("y"), bad), nil, nil, api.ErrArg},
		{pair(lit(api.Value{Kind: api.KBool}), "and", bad), nil, nil, api.ErrArg},
		{of(api.EIf, lit(api.Value{Kind: api.KBool}), bad, one), nil, nil, api.ErrArg},
		{work(api.MaxWork + 1), []string{"x"}, nil, api.ErrArg},
		{of(api.EList, work(api.MaxWork), bad), nil, nil, api.ErrArg},
	} {
		if _, errno := evaluated(t, c.e, scope{c.names, c.values}); errno != c.want {
			t.Errorf("row %d: %d, not %d", i, errno, c.want)
		}
	}
}

func TestLiteralsAndNames(t *testing.T) {
	for _, s := range []string{"true", "-9223372036854775808", "a", "-3+4i", "()", "(1,)", "[[], [1]]", "{1, [a], {}}"} {
		if got := told(t, lit(valueOf(t, s)), scope{}); got != s {
			t.Errorf("literal %s: %s", s, got)
		}
		if got := told(t, name("x"), means(t, "x", "7", "x", s, "y", "8")); got != s {
			t.Errorf("x that means %s: %s", s, got)
		}
	}
	if got := told(t, name("true"), means(t, "true", "5")); got != "5" {
		t.Error("a name that is a word of the language:", got)
	}
	cases{
		{"y", "name"},
		{"x'", "name"},
		{"X", "name"},
		{"let y = 1 do x", "2"},
		{"[let y = 1 do 2, y]", "name"},
		{"[fold y, w over [1] from 0 with y, y]", "name"},
		{"[fold y, w over [1] from 0 with y, w]", "name"},
	}.run(t, known(t))
	long := strings.Repeat("é", 32)
	if got := told(t, name(long), means(t, long, "1")); got != "1" {
		t.Error("a long name:", got)
	}
	if got := told(t, name("x"), scope{}); got != "name" {
		t.Error("a name where there is none:", got)
	}
}

func TestRows(t *testing.T) {
	cases{
		{"()", "()"},
		{"(x,)", "(2,)"},
		{"(x, b, t, l)", "(2, false, (7, true), [6, 5, 6])"},
		{"[]", "[]"},
		{"[x, b, x]", "[2, false, 2]"},
		{"{}", "{}"},
		{"{3, x, 1, x, 3}", "{1, 2, 3}"},
		{"{l, s, 1 + 1, x}", "{2, [6, 5, 6], {4, 5}}"},
		{"[y, head([])]", "name"},
		{"[head([]), y]", "stuck"},
		{"(1 + true, y)", "sort"},
		{"(1, y, head([]))", "name"},
		{"{1, head([]), y}", "stuck"},
		{"{y, 1 + true}", "name"},
	}.run(t, known(t))
}

// TestLimits: what passes layer 4's limits is stuck.
func TestLimits(t *testing.T) {
	ones := rowOf(api.KList)
	for range 4094 {
		ones.Items = append(ones.Items, integer(1))
	}
	deep := rowOf(api.KSet)
	for range 14 {
		deep = rowOf(api.KList, deep)
	}
	s := scope{}.with("ones", ones).with("deep", deep)
	for _, kind := range []api.ExprKind{api.ETuple, api.EList, api.ESet} {
		whole, errno := evaluated(t, of(kind, name("ones")), s)
		if errno != api.OK || len(whole.Items) != 1 || len(whole.Items[0].Items) != 4094 {
			t.Error("kind", kind, "4096 parts:", errno)
		}
		if got := told(t, of(kind, name("ones"), number(1)), s); got != "stuck" {
			t.Error("kind", kind, "4097 parts:", got)
		}
		if _, errno := evaluated(t, of(kind, name("deep")), s); errno != api.OK {
			t.Error("kind", kind, "16 levels:", errno)
		}
		if got := told(t, of(kind, of(kind, name("deep"))), s); got != "stuck" {
			t.Error("kind", kind, "17 levels:", got)
		}
		if got := told(t, of(kind, of(kind, name("ones"), number(1)), name("y")), s); got != "stuck" {
			t.Error("kind", kind, "4097 parts ahead of a name:", got)
		}
	}
	// Of a set's like items one alone counts.
	twice := of(api.ESet, name("ones"), name("ones"))
	if v, errno := evaluated(t, twice, s); errno != api.OK || len(v.Items) != 1 {
		t.Error("like items of a set:", errno)
	}
	if v, errno := evaluated(t, of(api.ESet, times(6000)...), s); errno != api.OK || len(v.Items) != 1 {
		t.Error("6000 like items of a set:", errno)
	}
	if got := told(t, of(api.EList, times(4096)...), s); got != "stuck" {
		t.Error("a list of 4096 items:", got)
	}
	cases{
		{"size(push(ones, 1))", "4095"},
		{"size(push(push(ones, 1), 1))", "stuck"},
		{"size(ones + ones)", "stuck"},
		{"push(tail(ones), 1) == ones", "true"},
		{"range(0, 4096)", "stuck"},
		{"size(range(0, 4095))", "4095"},
		{"gauss(1048577, 0)", "stuck"},
		{"gauss(1048576, 0) + gauss(1, 0)", "stuck"},
	}.run(t, s)
}

func TestOperations(t *testing.T) {
	cases{
		{"-x", "-2"},
		{"-z", "-3+4i"},
		{"not b", "true"},
		{"not x", "sort"},
		{"-b", "sort"},
		{"-y", "name"},
		{"not head([])", "stuck"},
		{"x - 3", "-1"},
		{"3 - x", "1"},
		{"7 / x", "3"},
		{"7 / -x", "-3"},
		{"-7 % x", "-1"},
		{"x / 0", "stuck"},
		{"x % 0", "stuck"},
		{"9223372036854775807 + 1", "-9223372036854775808"},
		{"z * z", "-7-24i"},
		{"[x] + l", "[2, 6, 5, 6]"},
		{"x == 2", "true"},
		{"x != 2", "false"},
		{"s < {1, 2, 3}", "true"},
		{"s <= s", "true"},
		{"k > #a", "false"},
		{"k >= #b", "false"},
		{"x == b", "sort"},
		{"5 in l", "true"},
		{"x in s", "false"},
		{"x in t", "sort"},
		{"s | {1}", "{1, 4, 5}"},
		{"s & {5, 6}", "{5}"},
		{`s \ {5, 6}`, "{4}"},
		{"x + true", "sort"},
		{"y + head([])", "name"},
		{"head([]) + y", "stuck"},
		{"(1 + true) + y", "sort"},
		{"x / 0 + true", "stuck"},
		{"true + x / 0", "stuck"},
		{"true + y", "name"},
		{"x in y", "name"},
	}.run(t, known(t))
}

func TestTruths(t *testing.T) {
	cases{
		{"true and true", "true"},
		{"true and b", "false"},
		{"b and true", "false"},
		{"b and b", "false"},
		{"true or true", "true"},
		{"true or b", "true"},
		{"b or true", "true"},
		{"b or b", "false"},
		{"b and y", "false"},
		{"b and head([])", "false"},
		{"b and 1", "false"},
		{"true or y", "true"},
		{"true or head([])", "true"},
		{"true or 1", "true"},
		{"true and y", "name"},
		{"true and head([])", "stuck"},
		{"true and x", "sort"},
		{"b or y", "name"},
		{"b or head([])", "stuck"},
		{"b or x", "sort"},
		{"x and true", "sort"},
		{"x and y", "sort"},
		{"x or true", "sort"},
		{"x or y", "sort"},
		{"1 and 1", "sort"},
		{"1 or 1", "sort"},
		{"0 and y", "sort"},
		{"y and b", "name"},
		{"head([]) or b", "stuck"},
	}.run(t, known(t))
}

func TestChoices(t *testing.T) {
	cases{
		{"if x == 2 then l else y", "[6, 5, 6]"},
		{"if b then y else l", "[6, 5, 6]"},
		{"if b then head([]) else 1", "1"},
		{"if b then 1 else head([])", "stuck"},
		{"if true then head([]) else 1", "stuck"},
		{"if true then y else 1", "name"},
		{"if 1 then 1 else 1", "sort"},
		{"if 1 then y else y", "sort"},
		{"if y then 1 else 1", "name"},
		{"if head([]) then 1 else 1", "stuck"},
		{"if not b then true else x", "true"},
		{"if b then true else x", "2"},
	}.run(t, known(t))
}

func TestLets(t *testing.T) {
	cases{
		{"let y = x + 1 do (x, y)", "(2, 3)"},
		{"let x = x + 1 do x", "3"},
		{"let x = x + 1 do let x = x * 10 do x", "30"},
		{"(let x = 5 do x, x)", "(5, 2)"},
		{"(let y = 5 do y) + x", "7"},
		{"let x = y do 1", "name"},
		{"let x = 1 do y", "name"},
		{"let y = y do 1", "name"},
		{"let x = head([]) do y", "stuck"},
		{"let x = 1 + true do y", "sort"},
		{"let y = 1 do let w = 2 do y + w", "3"},
		{"let y = (let y = 1 do y + 1) do y", "2"},
		{"let y = 1 do (let y = 2 do y) + y", "3"},
	}.run(t, known(t))
}

func TestFolds(t *testing.T) {
	cases{
		{"fold i, a over [1, 2, 3] from 0 with a * 10 + i", "123"},
		{"fold i, a over {3, 1, 2, 1} from 0 with a * 10 + i", "123"},
		{"fold i, a over l from [] with push(a, i)", "[6, 5, 6]"},
		{"fold i, a over s from (0, x) with (a.0 + i, a.1)", "(9, 2)"},
		{"fold i, i over [5, 6] from 1 with i + 1", "3"},
		{"fold a, i over [5, 6] from 1 with a - i", "2"},
		{"fold x, a over [5] from x with a + x", "7"},
		{"fold i, x over [5] from x with x + i", "7"},
		{"fold x, y over [x] from x with x", "2"},
		{"(fold x, a over [5] from 0 with x, x)", "(5, 2)"},
		{"(fold i, x over [5] from 0 with x, x)", "(0, 2)"},
		{"fold i, a over [] from x with y", "2"},
		{"fold i, a over {} from x with head([])", "2"},
		{"fold i, a over [] from y with 1", "name"},
		{"fold i, a over [] from head([]) with 1", "stuck"},
		{"fold i, a over [1] from 0 with y", "name"},
		{"fold i, a over [1] from 0 with head([])", "stuck"},
		{"fold i, a over [1] from 0 with a and i", "sort"},
		{"fold i, a over 1 from 0 with 1", "sort"},
		{"fold i, a over t from 0 with 1", "sort"},
		{"fold i, a over k from 0 with 1", "sort"},
		{"fold i, a over z from 0 with 1", "sort"},
		{"fold i, a over b from y with y", "sort"},
		{"fold i, a over 1 from head([]) with y", "sort"},
		{"fold i, a over y from 1 + true with 1", "name"},
		{"fold i, a over head([]) from y with 1", "stuck"},
		{"fold i, a over [i] from 1 with 1", "name"},
		{"fold i, a over [1] from i with 1", "name"},
		{"fold i, a over [a] from 1 with 1", "name"},
		{"fold i, a over [1] from a with 1", "name"},
		{"fold i, a over [1, 0, true] from 6 with a / i", "stuck"},
		{"fold i, a over [1, true, 0] from 6 with a / i", "sort"},
		{"fold i, a over [1, 2, 3] from 0 with fold j, c over [1, 2] from a with c * 10 + i + j", "233445"},
		{"fold i, a over [1, 2] from 0 with fold i, a over [3, 4] from a * 10 + i with a * 10 + i", "1342" + "34"},
	}.run(t, known(t))
}

func TestCalls(t *testing.T) {
	cases{
		{"size(s)", "2"},
		{"at(l, 1)", "5"},
		{"at(l, 3)", "stuck"},
		{"put(l, x, 9)", "[6, 5, 9]"},
		{"subsets(s)", "{{}, {4}, {5}, {4, 5}}"},
		{"norm(gauss(3, 4) * turn(gauss(1, 0)))", "25"},
		{"f(1)", "sort"},
		{"f()", "sort"},
		{"f(y)", "name"},
		{"f(head([]))", "stuck"},
		{"size()", "sort"},
		{"size(s, s)", "sort"},
		{"size(s, y)", "name"},
		{"size(s, head([]))", "stuck"},
		{"size(x)", "sort"},
		{"at(l, y)", "name"},
		{"at(y, head([]))", "name"},
		{"at(head([]), y)", "stuck"},
		{"range(x, 5)", "[2, 3, 4]"},
	}.run(t, known(t))
	// What is no function, though its name is an operation's, or none.
	for _, op := range []string{"", "+", "and", "not", "-", "SIZE", "head ", "\xff"} {
		if got := told(t, call(op, number(1), number(2)), scope{}); got != "sort" {
			t.Errorf("%q: %s", op, got)
		}
		if got := told(t, call(op, lit(valueOf(t, "true"))), scope{}); got != "sort" {
			t.Errorf("%q: %s", op, got)
		}
	}
}

func TestFields(t *testing.T) {
	cases{
		{"t.0", "7"},
		{"t.1", "true"},
		{"t.2", "stuck"},
		{"().0", "stuck"},
		{"(1,).1", "stuck"},
		{"x.0", "sort"},
		{"l.0", "sort"},
		{"l.7", "sort"},
		{"y.0", "name"},
		{"head([]).0", "stuck"},
		{"((1, (2, 3)), 4).0.1.0", "2"},
	}.run(t, known(t))
	wide := rowOf(api.KTuple)
	for i := range int64(4095) {
		wide.Items = append(wide.Items, integer(i))
	}
	s := scope{}.with("w", wide).with("l", rowOf(api.KList))
	for n, want := range map[int64]string{0: "0", 4094: "4094", 4095: "stuck", 4096: "stuck", 1 << 31: "stuck", 1 << 32: "stuck", 1<<32 + 1: "stuck", 1 << 62: "stuck", most: "stuck"} {
		if got := told(t, field(name("w"), n), s); got != want {
			t.Errorf("place %d: %s", n, got)
		}
		if got := told(t, field(name("l"), n), s); got != "sort" {
			t.Errorf("place %d of a list: %s", n, got)
		}
	}
}

// TestWork: how many are begun.
func TestWork(t *testing.T) {
	if got := spoken(t)(eval.Eval(work(api.MaxWork), nil, nil)); got != "-1" {
		t.Error("just so many:", got)
	}
	if got := spoken(t)(eval.Eval(work(api.MaxWork+1), nil, nil)); got != "stuck" {
		t.Error("one more:", got)
	}
	one, no := number(1), lit(api.Value{Kind: api.KBool})
	yes := lit(api.Value{Kind: api.KBool, Int: 1})
	list := lit(rowOf(api.KList, integer(1), integer(2), integer(3)))
	y := name("y") // which means nothing
	for i, c := range []struct {
		e     api.Expr
		begun int
	}{
		{one, 1},
		{name("x"), 1},
		{of(api.ETuple), 1},
		{of(api.EList, one, one), 3},
		{of(api.ESet, one, one), 3},
		{unary("-", one), 2},
		{pair(one, "+", one), 3},
		{pair(yes, "and", yes), 3},
		{pair(no, "and", work(9)), 2},
		{pair(yes, "or", work(9)), 2},
		{pair(no, "or", no), 3},
		{of(api.EIf, yes, one, work(9)), 3},
		{of(api.EIf, no, work(9), one), 3},
		{let("x", one, name("x")), 3},
		{fold("i", "a", list, one, one), 6},
		{fold("i", "a", list, one, pair(name("i"), "+", name("a"))), 12},
		{fold("i", "a", of(api.EList), one, work(9)), 3},
		{fold("i", "a", list, one, fold("i", "a", list, name("a"), name("i"))), 3 + 3*6},
		{call("size", list), 2},
		{field(of(api.ETuple, one), 0), 3},
	} {
		rest := api.MaxWork - 1 - c.begun
		s := means(t, "x", "5")
		// The list is the first that is begun; what comes behind the last one that may be begun tells whether it was.
		if _, errno := eval.Eval(of(api.EList, c.e, work(rest)), s.names, s.values); errno != api.OK {
			t.Errorf("row %d: more than %d: %d", i, c.begun, errno)
		}
		if _, errno := eval.Eval(of(api.EList, c.e, work(rest+1)), s.names, s.values); errno != api.ErrStuck {
			t.Errorf("row %d: fewer than %d: %d", i, c.begun, errno)
		}
		if _, errno := eval.Eval(of(api.EList, c.e, work(rest-1), y), s.names, s.values); errno != api.ErrName {
			t.Errorf("row %d: the last one: %d", i, errno)
		}
		if _, errno := eval.Eval(of(api.EList, c.e, work(rest), y), s.names, s.values); errno != api.ErrStuck {
			t.Errorf("row %d: one too many is a name: %d", i, errno)
		}
	}
}

// TestWorkAhead: the one beyond is stuck ahead of all else that it could be.
func TestWorkAhead(t *testing.T) {
	full := work(api.MaxWork - 1)
	for _, beyond := range []api.Expr{name("y"), call("f"), pair(number(1), "+", of(api.EList)), of(api.EIf, number(1), number(1), number(1)), number(1)} {
		for _, e := range []api.Expr{
			pair(full, "+", beyond),
			pair(full, "<", beyond),
			call("f", full, beyond),
			let("x", full, beyond),
			of(api.ETuple, full, beyond),
		} {
			if got := spoken(t)(eval.Eval(e, nil, nil)); got != "stuck" {
				t.Errorf("kind %d, %d behind: %s", e.Kind, beyond.Kind, got)
			}
		}
	}
	// What was begun in time may still end in its own error.
	for _, e := range []api.Expr{pair(full, "and", name("y")), fold("i", "a", full, name("y"), name("y")), of(api.EIf, full, name("y"), name("y")), field(full, 0), unary("not", full), call("f", full)} {
		if got := spoken(t)(eval.Eval(e, nil, nil)); got != "sort" {
			t.Errorf("kind %d: %s", e.Kind, got)
		}
	}
}

// TestLongFolds: folds of which the last turn that is done in time ends just at the limit.
func TestLongFolds(t *testing.T) {
	cases{
		{"fold i, a over range(0, 3999) from 0 with a + i - i + 1", "stuck"},
		{"fold i, a over range(0, 3999) from 0 with a + 1 + 1", "7998"},
		{"fold i, a over range(0, 4000) from 0 with a + 1 + 1", "stuck"},
		{"(fold i, a over range(0, 3999) from 0 with a + 1 + 1,)", "stuck"},
		{"fold i, n over range(0, 4000) from 0 with n + 1", "4000"},
	}.run(t, scope{})
}

// TestManyNames: what is asked of many names takes no longer for each of them.
func TestManyNames(t *testing.T) {
	var s scope
	for range 200000 {
		s.names = append(s.names, "y")
		s.values = append(s.values, integer(0))
	}
	s.names[0], s.values[0] = "x", integer(7)
	e := parsed(t, "fold i, a over range(0, 4000) from x with x + x")
	if v, errno := eval.Eval(e, s.names, s.values); errno != api.OK || v.Int != 14 {
		t.Error(v, errno)
	}
}
