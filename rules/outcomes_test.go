package rules_test

import (
	"fmt"
	"slices"
	"strings"
	"testing"

	"sextant/api"
	"sextant/rules"
	"sextant/value"
)

// P15.2

// ruled answers an automaton of these rules whose sorts are all int.
func ruled(t testing.TB, mode, rules string) api.Auto {
	t.Helper()
	return autoOf(t, "automaton A "+mode+" arg int reply int state int start 0 { "+rules+" }")
}

func TestNamesLinear(t *testing.T) {
	a := autoOf(t, `automaton A linear arg list int reply (symbol, symbol, list int, int) state int start 0 {
		rule all give (proc, op, arg, state) next state + size(arg);
		rule each for state in arg when op == #each give (op, proc, [], state) next state;
		rule again for arg in {proc}, op in [arg, op] when op != arg and op == #again give (arg, op, [], 0) next 0;
	}`)
	holds(t, a, "7", "p f [5]", "p (p, f, [5], 7) -> 8")
	holds(t, a, "0", "p each [6, 5, 6]", "p (each, p, [], 5) -> 5; p (each, p, [], 6) -> 6; p (p, each, [6, 5, 6], 0) -> 3")
	holds(t, a, "0", "again again []", "again (again, again, [], 0) -> 0")
	holds(t, a, "0", "p again []", "p (p, again, [], 0) -> 0")
	holds(t, a, "0", "é f []", "é (é, f, [], 0) -> 0")
	holds(t, a, "-1", "true' truly [1, 1, 1]", "true' (true', truly, [1, 1, 1], -1) -> 2")
}

func TestNamesCalls(t *testing.T) {
	a := autoOf(t, `automaton A interval arg list int reply set (symbol, symbol, list int) state int start 0 {
		rule all give {(#z, calls)} next state;
		rule each for calls in list(calls) when calls.1 == #g give {(calls.0, {calls})} next size(calls.2);
	}`)
	holds(t, a, "7", "p f [5]", "z {(p, f, [5])} -> 7")
	holds(t, a, "1", "p g [5]; q f [3, 4]; r g []", "p {(p, g, [5])} -> 1; r {(r, g, [])} -> 0; z {(p, g, [5]), (q, f, [3, 4]), (r, g, [])} -> 1")
}

// TestGenerators: each name means the item of the last generator of that name ahead, and a From none of its own or behind.
func TestGenerators(t *testing.T) {
	a := ruled(t, "linear", "rule r for x in [1, 2], x in [x, x + 10], y in range(0, x) when y > 8 give x next y;")
	holds(t, a, "0", "p f 0", "p 11 -> 9; p 11 -> 10; p 12 -> 9; p 12 -> 10; p 12 -> 11")
	a = ruled(t, "linear", "rule r for state in [state, state + 1], state in {state, 5}, x in [[state]], x in x give x next state;")
	holds(t, a, "7", "p f 0", "p 5 -> 5; p 7 -> 7; p 8 -> 8")
	a = ruled(t, "set", "rule r for x in calls, y in calls, x in [y], y in [x.2], z in {y} when size(calls) == 1 give {(x.0, z)} next y;")
	holds(t, a, "7", "p f 3", "p 3 -> 3")
	// One binding without generators, and none where a generator has no items.
	a = ruled(t, "linear", "rule r give 1 next 2; rule s for x in [] give 3 next 4; rule u for x in [1], y in {} give 5 next 6; rule v for x in {}, y in [1] give 7 next 8;")
	holds(t, a, "7", "p f 3", "p 1 -> 2")
	// What lists and sets hold may be anything.
	a = ruled(t, "linear", "rule r for x in [(#a, 1), (#b, 2)], s in {{1}, {}, {2, 3}}, y in s, z in {gauss(y, 1)}, k in [true, false, true] when k and x.0 == #b give x.1 next re(z);")
	holds(t, a, "7", "p f 3", "p 2 -> 1; p 2 -> 2; p 2 -> 3")
}

// TestStuck: what has no value gives nothing there, and leaves all else.
func TestStuck(t *testing.T) {
	for rule, want := range map[string]string{
		"for x in [0, 1, 2], y in [4 / x, 1] give x next y":                                        "p 1 -> 1; p 1 -> 4; p 2 -> 1; p 2 -> 2",
		"for x in range(0, 3), y in if x == 1 then [head([])] else [5] give x next y":              "p 0 -> 5; p 2 -> 5",
		"for x in [0, 1, 2] when 4 / x == 2 give x next x":                                         "p 2 -> 2",
		"for x in [0, 1, 2] give 4 / x next x":                                                     "p 2 -> 2; p 4 -> 1",
		"for x in [0, 1, 2] give x next 4 / x":                                                     "p 1 -> 4; p 2 -> 2",
		"for x in head([]) give x next x":                                                          "",
		"for x in [[]], y in x give y next y":                                                      "",
		"for x in at([], 0), y in x.3 give y + 1 next size(y)":                                     "",
		"for x in range(0, 5000) give x next x":                                                    "",
		"for x in [1 / 0] give 1 next 1":                                                           "",
		"for x in [1], y in [2], z in [1 / 0] give 1 next 1":                                       "",
		"when head([]) give 1 next 1":                                                              "",
		"when head([true]) give 1 next 1":                                                          "p 1 -> 1",
		"when false give 1 next 1":                                                                 "",
		"when false and 1 / 0 == 1 give 1 next 1":                                                  "",
		"when true or 1 / 0 == 1 give 1 next 1":                                                    "p 1 -> 1",
		"give head([]) next 1":                                                                     "",
		"give 1 next head([])":                                                                     "",
		"when 1 == 2 give 1 / 0 next 1":                                                            "",
		"for x in [1, 2] give if x == 1 then 1 / 0 else x next x":                                  "p 2 -> 2",
		"for x in subsets(set(range(1, state))) when size(x) > state - 2 give size(x) next max(x)": "p 9 -> 9",
	} {
		holds(t, ruled(t, "linear", "rule r "+rule+";"), "10", "p f 0", want)
		other := strings.Replace(want, "p ", "p -7 -> -7; p ", 1)
		if want == "" {
			other = "p -7 -> -7"
		}
		holds(t, ruled(t, "linear", "rule r "+rule+"; rule s give -7 next -7;"), "10", "p f 0", other)
		holds(t, ruled(t, "linear", "rule s give -7 next -7; rule r "+rule+";"), "10", "p f 0", other)
	}
	holds(t, ruled(t, "linear", "rule r for x in subsets(set(range(0, state))) give size(x) next 0;"), "11", "p f 0", "")
}

// TestWork: each evaluation has its own count of expressions.
func TestWork(t *testing.T) {
	long := "(fold i, s over range(0, 4090) from 0 with s * 1 + 1)"
	a := ruled(t, "linear", "rule r for x in ["+long+"], y in ["+long+"] when "+long+" == x give "+long+" next y + 0 * ("+long+"); rule s for x in ["+long+"] give x next ("+long+") + ("+long+");")
	if got, _ := rules.Outcomes(a, integer(0), procs(1, "f", integer(0))); len(got) != 0 {
		t.Error(got)
	}
	long = "(fold i, s over range(0, 3900) from 0 with s + 1)"
	a = ruled(t, "linear", "rule r for x in ["+long+"], y in ["+long+"] when "+long+" == x give "+long+" next y + 0 * ("+long+"); rule s for x in ["+long+"] give x next ("+long+") + ("+long+");")
	holds(t, a, "0", "p f 0", "p 3900 -> 3900")
}

// TestAnswers: who may be answered.
func TestAnswers(t *testing.T) {
	for give, want := range map[string][2]string{ // in mode set, in mode interval, of calls by p and q
		"{(#p, 1), (#q, 2)}":                    {"p 1, q 2 -> 7", "p 1, q 2 -> 7"},
		"{(#q, 2), (#p, 1)}":                    {"p 1, q 2 -> 7", "p 1, q 2 -> 7"},
		"{(#q, 2), (#p, 1), (#q, 2)}":           {"p 1, q 2 -> 7", "p 1, q 2 -> 7"},
		"{(#p, 1)}":                             {"", "p 1 -> 7"},
		"{(#q, 1)}":                             {"", "q 1 -> 7"},
		"{(#r, 1)}":                             {"", "r 1 -> 7"},
		"{(#p, 1), (#r, 1)}":                    {"", "p 1, r 1 -> 7"},
		"{(#a, 1), (#p, 1), (#q, 2)}":           {"", "a 1, p 1, q 2 -> 7"},
		"{(#p, 1), (#q, 2), (#r, 1)}":           {"", "p 1, q 2, r 1 -> 7"},
		"{(#p, 1), (#p, 2)}":                    {"", ""},
		"{(#p, 1), (#p, 2), (#q, 1)}":           {"", ""},
		"{(#p, 1), (#q, 2), (#q, 1)}":           {"", ""},
		"{(#z, 1), (#q, 2), (#p, 1), (#z, -1)}": {"", ""},
		"{}":                                    {"", ""},
		"{(#p, 1)} \\ {(#p, 1)}":                {"", ""},
		"{head([])}":                            {"", ""},
		"set([(head([]), 1)])":                  {"", ""},
		"{(c.0, c.2), (#q, 2)}":                 {"p 0, q 2 -> 7", "p 0, q 2 -> 7"},
		"{(c.0, c.2), (#p, 2)}":                 {"p 2, q 0 -> 7", "p 2, q 0 -> 7"},
		"fold d, s over calls from {} with s | {(d.0, size(s))}": {"p 0, q 1 -> 7", "p 0, q 1 -> 7"},
	} {
		for i, mode := range []string{"set", "interval"} {
			holds(t, ruled(t, mode, "rule r for c in calls give "+give+" next state;"), "7", "p f 0; q g 0", want[i])
		}
	}
}

// TestOrder: fewer answers first, then the earlier process, then the lesser value, then the next state; each outcome once.
func TestOrder(t *testing.T) {
	a := autoOf(t, `automaton A interval arg int reply list int state set int start {} {
		rule r for n in {{2, 3}, {}, {1}} give {(#p, [2]), (#q, [10])} next n;
		rule s for n in [{1}, {2, 3}, {}] give {(#q, [2]), (#p, [10])} next n;
		rule u for k in [1, 2, 1] give {(#p, []), (#q, [1, 1])} next {};
		rule v give {(#p, []), (#q, [1, 1])} next {};
		rule w for x in [[2], [], [-1], [1, 1]] give {(#q, x)} next {};
		rule x give {(#o, [9]), (#z, [9])} next {};
		rule y for p in [#q, #r, #p, #p', #é, #P] give {(p, [7])} next {5};
	}`)
	holds(t, a, "{}", "p f 1", strings.Join([]string{
		"P [7] -> {5}", "p [7] -> {5}", "p' [7] -> {5}",
		"q [] -> {}", "q [-1] -> {}", "q [2] -> {}", "q [7] -> {5}", "q [1, 1] -> {}",
		"r [7] -> {5}", "é [7] -> {5}",
		"o [9], z [9] -> {}",
		"p [], q [1, 1] -> {}",
		"p [2], q [10] -> {}", "p [2], q [10] -> {1}", "p [2], q [10] -> {2, 3}",
		"p [10], q [2] -> {}", "p [10], q [2] -> {1}", "p [10], q [2] -> {2, 3}",
	}, "; "))
}

// numbers answers the next states of outcomes, which are integers.
func numbers(l []api.Outcome) []int {
	var out []int
	for _, o := range l {
		out = append(out, int(o.Next.Int))
	}
	return out
}

// upTo answers the numbers from a to b.
func upTo(a, b int) []int {
	var out []int
	for i := a; i <= b; i++ {
		out = append(out, i)
	}
	return out
}

func holdNumbers(t *testing.T, mode, text string, want []int) {
	t.Helper()
	got, errno := looked(t, ruled(t, mode, text), integer(0), procs(1, "f", integer(0)))
	if errno != api.OK || !slices.Equal(numbers(got), want) {
		t.Errorf("%s: %d, %v; want %v", text, errno, numbers(got), want)
	}
}

// TestTries: the last binding that is looked at, and the first that is not.
func TestTries(t *testing.T) {
	for _, text := range []string{
		"rule r for i in range(0, 5000 - 1000) when i > 3990 give i next i;",
		"rule r for i in range(0, 4000), j in [0] when i > 3990 give i next i;",
	} {
		holdNumbers(t, "linear", text, upTo(3991, 3999))
	}
	for _, text := range []string{
		// Bindings that give nothing count.
		"rule r for i in range(0, 65), j in range(0, 64) when 64 * i + j >= 4090 give i next 64 * i + j;",
		"rule r for i in range(0, 5), j in range(0, 1000) when 1000 * i + j >= 4090 give i next 1000 * i + j;",
		"rule r for i in range(0, 1000), j in range(0, 5) when 5 * i + j >= 4090 give i next 5 * i + j;",
		"rule r for i in list(set(range(-9, 0))), j in range(0, 10), k in range(0, 100) when 1000 * i + 100 * j + k >= -4910 give 0 next 1000 * i + 100 * j + k + 9000;",
		// Where they are stuck, too.
		"rule r for i in range(0, 1000), j in range(0, 5) when 5 * i + j + 0 / ((5 * i + j) / 4090) >= 0 give i next 5 * i + j;",
		"rule r for i in range(0, 1000), j in range(0, 5) give i + 0 / ((5 * i + j) / 4090) next 5 * i + j;",
		"rule r for i in range(0, 1000), j in range(0, 5) give i next 5 * i + j + 0 / ((5 * i + j) / 4090);",
		// Where a generator has no items there is no binding to be counted.
		"rule r for i in range(0, 1000), j in range(0, 20), k in if j % 4 == 3 then [j / 4] else [1 / 0] when 5 * i + k >= 4090 give i next 5 * i + k;",
		"rule r for i in range(0, 2000), j in if i % 2 == 0 then [] else range(0, 5), k in [1] when 5 * (i / 2) + j >= 4090 give i next 5 * (i / 2) + j;",
		// Items that are alike in a list are bindings of their own.
		"rule r for k in [0, 0], i in range(0, 4000) when k == 0 and i < 96 and i >= 90 give i next i + 4000; rule s for i in {4096, 4097} when i < 0 give 0 next i;",
		// Each rule has its own.
		"rule q for i in range(0, 65), j in range(0, 64) when 64 * i + j == 4096 give i next 0; rule r for i in range(0, 65), j in range(0, 64) when 64 * i + j >= 4090 give i next 64 * i + j; rule s for i in range(0, 65), j in range(0, 64) when 64 * i + j >= 4092 give i next 64 * i + j;",
	} {
		holdNumbers(t, "linear", text, upTo(4090, 4095))
	}
	// The last generator goes fastest: of 4096 bindings the first 4096 / 100 items of the first one are seen whole.
	text := "rule r for i in range(0, 100), j in range(0, 100) when j == 96 or j == 95 give {(#z, j)} next 100 * i + j;"
	var want []int
	for _, j := range []int{95, 96} {
		for i := range 100 {
			if 100*i+j < 4096 {
				want = append(want, 100*i+j)
			}
		}
	}
	holdNumbers(t, "interval", text, want)
}

// TestNothing: generators that come to nothing, of so many items that nobody could go through all of them.
func TestNothing(t *testing.T) {
	few := "x in range(0, 90), "
	many := few + "a in range(0, 90), b in range(0, 90), c in range(0, 90), d in range(0, 90), "
	for _, gens := range []string{
		many + "z in []",
		many + "z in range(90, 0), w in range(0, 90)",
		many + "z in range(d, 0)",
		many + "z in range(c, 0)",
		many + "z in range(x, 0)",
		many + "e in range(x, 90), z in [1 / 0]",
		many + "e in range(x, x / 0), z in [1]",
		many + "a in range(x, 0)",
		many + "x in range(x, 0)",
		strings.Repeat(few, 40) + "x in []",
		strings.Repeat(few, 40) + "x in range(1, 0)",
		strings.Repeat(few, 40) + "x in range(x, 0)",
		strings.Repeat(few, 40) + "y in [x], y in range(y, 0)",
	} {
		a := ruled(t, "linear", "rule r for "+gens+" give 1 next 2; rule s give 3 next 4;")
		got, errno := rules.Outcomes(a, integer(0), procs(1, "f", integer(0)))
		if s := said(t, got); errno != api.OK || s != "p00 3 -> 4" {
			t.Errorf("%s: %d, %s", gens, errno, s)
		}
	}
	// Where there are some behind none they are found, whichever generators they hang on.
	for _, gens := range []string{
		"x in range(0, 9), y in range(0, 9), z in range(y, 1), k in range(x - 7, 3)",
		"x in range(0, 9), y in range(0, 9), z in range(7 - x, 1), k in range(0, 3)",
		"x in range(0, 9), y in range(0, 9), z in range(0, 9), k in range(7 - y, 3)",
		"x in range(0, 9), y in range(0, 9), z in range(0, 9), k in if x + y > 14 then {z} else {}",
		"x in range(0, 9), y in range(x, 9), z in [x], k in if z * y == 12 then {z} else {}",
		"x in range(0, 9), y in range(0, 9), z in [x], x in if x == 8 then [4, 5] else [0], k in if x > y then [y] else []",
		"x in range(0, 9), k in range(8 - x, x - 7), y in range(0, 9), z in if x == 8 then [y] else []",
	} {
		for _, mode := range []string{"linear", "interval"} {
			give := map[string]string{"linear": "x", "interval": "{(#z, x)}"}[mode]
			a := ruled(t, mode, "rule r for "+gens+" give "+give+" next 1000 * x + 100 * y + 10 * z + k;")
			if got, errno := looked(t, a, integer(0), procs(1, "f", integer(0))); errno != api.OK || len(got) == 0 {
				t.Errorf("%s: %d, %v", gens, errno, numbers(got))
			}
		}
	}
}

// TestManyGenerators: of one item each, and of two.
func TestManyGenerators(t *testing.T) {
	a := ruled(t, "linear", "rule r for x in [1], x in [x + 1] give x next x; rule s for x in [0], x in [x * 2, x * 2 + 1] give x next x;")
	const n = 50000
	for i := range a.Rules {
		for range n {
			a.Rules[i].Gens = append(a.Rules[i].Gens, a.Rules[i].Gens[1])
		}
	}
	got, errno := rules.Outcomes(a, integer(0), procs(1, "f", integer(0)))
	if errno != api.OK || !slices.Equal(numbers(got), upTo(0, 511)) {
		t.Error(errno, len(got), numbers(got))
	}
	a.Rules = a.Rules[:1]
	got, errno = rules.Outcomes(a, integer(0), procs(1, "f", integer(0)))
	if errno != api.OK || !slices.Equal(numbers(got), []int{n + 2}) {
		t.Error(errno, numbers(got))
	}
}

func TestOutcomesLimit(t *testing.T) {
	for n, want := range map[int][]int{0: nil, 1: upTo(1, 1), 511: upTo(1, 511), 512: upTo(1, 512), 513: upTo(1, 512), 4000: upTo(1, 512)} {
		// Falling, and each twice.
		got, errno := looked(t, ruled(t, "linear", fmt.Sprintf("rule r for x in range(%d, 0), y in [1, 2] give 0 - x next 0 - x; rule s for x in range(0, %d), y in [x / 2] give x + 1 next x + 1;", -n, n)), integer(0), procs(1, "f", integer(0)))
		if errno != api.OK || !slices.Equal(numbers(got), want) {
			t.Error(n, errno, numbers(got))
		}
		a := ruled(t, "interval", fmt.Sprintf("rule r for x in range(1, %d), y in [#z, #y] when x %% 2 == 1 or y == #y give {(y, 0 - x)} next x;", n+1))
		if _, errno := looked(t, a, integer(0), procs(3, "f", integer(0))); errno != api.OK {
			t.Error(n, errno)
		}
	}
	// Those of fewer answers, of whichever rule, push out those that come behind.
	text := "rule r for x in range(0, 600) give {(#z, x), (#y, x)} next x; rule s for x in range(0, 500) give {(#z, x)} next x;"
	got, _ := looked(t, ruled(t, "interval", text), integer(0), procs(3, "f", integer(0)))
	if !slices.Equal(numbers(got), append(upTo(0, 499), upTo(0, 11)...)) {
		t.Error(numbers(got))
	}
}

// nest answers a value of so many levels.
func nest(levels int) api.Value {
	v := rowOf(api.KList)
	for range levels - 1 {
		v = rowOf(api.KList, v)
	}
	return v
}

// TestCallsTooDeep: a set of calls lies two levels above an argument.
func TestCallsTooDeep(t *testing.T) {
	for _, mode := range []string{"linear", "set", "interval"} {
		for levels, sort := 1, "list int"; levels <= 16; levels, sort = levels+1, "list "+sort {
			give := map[string]string{"linear": "1", "set": "{(#p00, 1)}", "interval": "{(#z, 1)}"}[mode]
			a := autoOf(t, "automaton A "+mode+" arg "+sort+" reply int state int start 0 { rule r give "+give+" next 0; rule s for x in [1, 2] when true give "+give+" next x; }")
			got, errno := looked(t, a, integer(0), procs(1, "f", nest(levels)))
			want := upTo(0, 2)
			if mode != "linear" && levels > 14 {
				want = nil
			}
			if errno != api.OK || !slices.Equal(numbers(got), want) {
				t.Errorf("%s, %s: %d, %v", mode, sort, errno, got)
			}
		}
	}
}

// TestCallsTooGreat: a set of calls has a part more than its calls', and each call three more than its argument.
func TestCallsTooGreat(t *testing.T) {
	list := func(parts int) api.Value {
		return rowOf(api.KList, slices.Repeat([]api.Value{integer(1)}, parts-1)...)
	}
	for _, mode := range []string{"linear", "set", "interval"} {
		give := map[string]string{"linear": "size(arg)", "set": "{(#p00, 1), (#p01, 1)}", "interval": "{(#z, 1)}"}[mode]
		a := autoOf(t, "automaton A "+mode+" arg list int reply int state int start 0 { rule r give "+give+" next 5; }")
		for _, x := range []struct {
			parts []int
			calls bool
		}{{[]int{4092}, true}, {[]int{4093}, false}, {[]int{4094}, false}, {[]int{4096}, false}, {[]int{2044, 2045}, true}, {[]int{2045, 2045}, false}, {[]int{1, 4088}, true}, {[]int{4089, 1}, false}, {[]int{1, 4096}, false}} {
			class := procs(len(x.parts), "f", integer(0))
			for i, n := range x.parts {
				class[i].Arg = list(n)
			}
			got, errno := looked(t, a, integer(0), class)
			want, some := api.OK, x.calls
			switch {
			case mode == "linear" && len(class) > 1:
				want, some = api.ErrArg, false
			case mode == "linear":
				some = true
			case mode == "set" && len(class) == 1:
				some = false
			}
			if errno != want || (len(got) == 1) != some {
				t.Errorf("%s, %v: %d, %v", mode, x.parts, errno, got)
			}
		}
	}
}

// TestGreat: many answers, and great values, none of which lies in another's memory.
func TestGreat(t *testing.T) {
	a := autoOf(t, `automaton A interval arg list int reply (list int, list int) state (list int, set list int) start ([], {}) {
		rule r for x in calls, k in range(0, 60) give {(x.0, (x.2, state.0)), (#z, (x.2, x.2))} next (push(state.0, k), {x.2, state.0});
		rule s for k in range(0, 700) give {(#z, (state.0, state.0))} next (push(state.0, k), state.1);
	}`)
	state := valueOf(t, "([1, 2, 3], {[], [1, 2, 3]})")
	class := procs(10, "f", valueOf(t, "[5, 6, 7]"))
	got, errno := looked(t, a, state, class)
	if errno != api.OK || len(got) != 512 {
		t.Error(errno, len(got))
	}
	again, _ := looked(t, a, state, class)
	fresh(t, listsOfOutcomes(again), listsOfOutcomes(got))
	// 1000 processes, all answered at once.
	b := ruled(t, "interval", "rule r give {} next 0;")
	set := api.Expr{Kind: api.ESet}
	for i := range 1000 {
		name, _ := value.Symbol(fmt.Sprint("p", 2000-i))
		set.Items = append(set.Items, api.Expr{Kind: api.ETuple, Items: []api.Expr{{Kind: api.ELit, Value: name}, {Kind: api.ELit, Value: integer(int64(i))}}})
	}
	b.Rules[0].Give = set
	got, errno = looked(t, b, integer(0), class[:0:0])
	if errno != api.ErrArg {
		t.Error(errno)
	}
	got, errno = looked(t, b, integer(0), procs(1, "f", integer(0)))
	if errno != api.OK || len(got) != 1 || len(got[0].Answers) != 1000 || got[0].Answers[0].Proc != "p1001" {
		t.Error(errno, len(got))
	}
}
