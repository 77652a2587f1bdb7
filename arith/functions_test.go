package arith_test

import (
	"slices"
	"strings"
	"testing"

	"sextant/api"
	"sextant/arith"
)

// P5.3

func TestFunctions(t *testing.T) {
	want := strings.Fields("size head last tail at put push with without list set min max range subsets gauss re im conj norm turn")
	got := arith.Functions()
	if !slices.Equal(got, want) {
		t.Errorf("Functions() = %v", got)
	}
	for i := range got {
		got[i] = "spoilt"
	}
	if again := arith.Functions(); !slices.Equal(again, want) {
		t.Errorf("Functions() once more: %v", again)
	}
}

func TestArity(t *testing.T) {
	for _, f := range names() {
		if n := arith.Arity(f[0]); n != len(f[1]) {
			t.Errorf("Arity(%s) = %d", f[0], n)
		}
	}
	for _, name := range strangeNames() {
		if n := arith.Arity(name); n != -1 {
			t.Errorf("Arity(%q) = %d", name, n)
		}
	}
}

func strangeNames() []string {
	return []string{"", "sum", "Size", "size ", "sizes", "siz", "not", "in", "+", "tuple", "gauß", "\xff", "head\x00", strings.Repeat("size", 1000)}
}

func TestCallOfTexts(t *testing.T) {
	for _, x := range []struct {
		name, args string // the arguments as a tuple
		want       string // of no text: ErrSort; "-": ErrStuck
	}{
		{"size", "([5, 6],)", "2"},
		{"size", "([],)", "0"},
		{"size", "({5, 6, 7},)", "3"},
		{"size", "((1, 2),)", ""},
		{"size", "(a,)", ""},
		{"size", "(1,)", ""},
		{"head", "([5, 6],)", "5"},
		{"head", "([],)", "-"},
		{"head", "({5},)", ""},
		{"last", "([5, 6],)", "6"},
		{"last", "([[1, 2]],)", "[1, 2]"},
		{"last", "([],)", "-"},
		{"last", "({5},)", ""},
		{"tail", "([5, 6, 7],)", "[6, 7]"},
		{"tail", "([5],)", "[]"},
		{"tail", "([],)", "-"},
		{"tail", "({5},)", ""},
		{"at", "([5, 6], 0)", "5"},
		{"at", "([5, 6], 1)", "6"},
		{"at", "([5, 6], 2)", "-"},
		{"at", "([5, 6], -1)", "-"},
		{"at", "([5, 6], 4294967296)", "-"},
		{"at", "([5, 6], 9223372036854775807)", "-"},
		{"at", "([5, 6], -9223372036854775808)", "-"},
		{"at", "([], 0)", "-"},
		{"at", "({5, 6}, 0)", ""},
		{"at", "((5, 6), 0)", ""},
		{"at", "([5, 6], 1+0i)", ""},
		{"at", "(1, [5, 6])", ""},
		{"put", "([5, 6], 0, 1)", "[1, 6]"},
		{"put", "([5, 6], 1, [])", "[5, []]"},
		{"put", "([5, 6], 2, 1)", "-"},
		{"put", "([5, 6], -1, 1)", "-"},
		{"put", "([], 0, 1)", "-"},
		{"put", "({5}, 0, 1)", ""},
		{"put", "([5], true, 1)", ""},
		{"push", "([5, 6], 7)", "[5, 6, 7]"},
		{"push", "([], [])", "[[]]"},
		{"push", "([1], a)", "[1, a]"},
		{"push", "({5}, 7)", ""},
		{"push", "(7, [5])", ""},
		{"with", "({1}, 0)", "{0, 1}"},
		{"with", "({1}, 1)", "{1}"},
		{"with", "({}, {})", "{{}}"},
		{"with", "({a}, true)", "{true, a}"},
		{"with", "([1], 0)", ""},
		{"without", "({1}, 1)", "{}"},
		{"without", "({1, 2, 3}, 2)", "{1, 3}"},
		{"without", "({1, 2}, 3)", "{1, 2}"},
		{"without", "({1, 2}, {1})", "{1, 2}"},
		{"without", "({}, 1)", "{}"},
		{"without", "({1, 1+0i}, 1)", "{1+0i}"},
		{"without", "([1], 1)", ""},
		{"list", "({3, 1, true},)", "[true, 1, 3]"},
		{"list", "({},)", "[]"},
		{"list", "([1],)", ""},
		{"set", "([3, 1, 3],)", "{1, 3}"},
		{"set", "([],)", "{}"},
		{"set", "({1},)", ""},
		{"min", "([3, 9, 1, 9],)", "1"},
		{"max", "([3, 9, 1, 9],)", "9"},
		{"min", "({3, 9, 1},)", "1"},
		{"max", "({3, 9, 1},)", "9"},
		{"min", "([[1, 1], [9]],)", "[9]"},
		{"max", "([a, {}, 7, true],)", "{}"},
		{"min", "([a, {}, 7, true],)", "true"},
		{"min", "([],)", "-"},
		{"min", "({},)", "-"},
		{"max", "([],)", "-"},
		{"max", "({},)", "-"},
		{"max", "((1, 2),)", ""},
		{"min", "(1, 2)", ""},
		{"range", "(2, 2)", "[]"},
		{"range", "(2, 5)", "[2, 3, 4]"},
		{"range", "(-1, 1)", "[-1, 0]"},
		{"range", "(5, 2)", "[]"},
		{"range", "(9223372036854775805, 9223372036854775807)", "[9223372036854775805, 9223372036854775806]"},
		{"range", "(-9223372036854775808, -9223372036854775806)", "[-9223372036854775808, -9223372036854775807]"},
		{"range", "(-9223372036854775808, 9223372036854775807)", "-"},
		{"range", "(9223372036854775807, -9223372036854775808)", "[]"},
		{"range", "(-1, 9223372036854775807)", "-"},
		{"range", "(0, 1+0i)", ""},
		{"range", "(5,)", ""},
		{"subsets", "({1, 2},)", "{{}, {1}, {2}, {1, 2}}"},
		{"subsets", "({},)", "{{}}"},
		{"subsets", "({a},)", "{{}, {a}}"},
		{"subsets", "({1, a, {}},)", "{{}, {1}, {a}, {{}}, {1, a}, {1, {}}, {a, {}}, {1, a, {}}}"},
		{"subsets", "([1, 2],)", ""},
		{"gauss", "(3, -4)", "3-4i"},
		{"gauss", "(1048576, -1048576)", "1048576-1048576i"},
		{"gauss", "(1048576, 1048577)", "-"},
		{"gauss", "(1048577, 0)", "-"},
		{"gauss", "(-1048577, 0)", "-"},
		{"gauss", "(0, 9223372036854775807)", "-"},
		{"gauss", "(1, true)", ""},
		{"gauss", "(1+0i, 1)", ""},
		{"re", "(3-4i,)", "3"},
		{"im", "(3-4i,)", "-4"},
		{"re", "(3,)", ""},
		{"im", "(3,)", ""},
		{"conj", "(3-4i,)", "3+4i"},
		{"conj", "(3+0i,)", "3+0i"},
		{"conj", "(3,)", ""},
		{"norm", "(3-4i,)", "25"},
		{"norm", "(0+0i,)", "0"},
		{"norm", "(1048576-1048576i,)", "2199023255552"},
		{"norm", "(-1048575+1048576i,)", "2199021158401"},
		{"norm", "(3,)", ""},
		{"turn", "(3-4i,)", "4+3i"},
		{"turn", "(1048576+1048576i,)", "-1048576+1048576i"},
		{"turn", "(0+0i,)", "0+0i"},
		{"turn", "(3,)", ""},
	} {
		want, wantE := api.Value{}, api.ErrSort
		switch x.want {
		case "":
		case "-":
			wantE = api.ErrStuck
		default:
			want, wantE = read(t, x.want), api.OK
		}
		v, e := arith.Call(x.name, read(t, x.args).Items)
		hold(t, v, e, want, wantE, x.name, x.args)
	}
}

func TestCallOfAll(t *testing.T) {
	all, some := samples(), few()
	for _, name := range append(arith.Functions(), strangeNames()...) {
		rows := [][]api.Value{nil, {}, slices.Repeat(some[:1], 4)}
		for _, a := range all {
			rows = append(rows, []api.Value{a})
			for _, b := range all {
				rows = append(rows, []api.Value{a, b})
			}
		}
		for _, a := range some {
			for _, b := range some {
				for _, c := range some {
					rows = append(rows, []api.Value{a, b, c}, []api.Value{a, b, c, a})
				}
			}
		}
		for _, args := range rows {
			got, e := arith.Call(name, args)
			want, wantE := modelCall(name, args)
			hold(t, got, e, want, wantE, name, args)
		}
	}
}

func TestCallOfWrongValues(t *testing.T) {
	some := few()
	for why, v := range wrong() {
		for _, name := range append(arith.Functions(), strangeNames()...) {
			for _, a := range some {
				for _, args := range [][]api.Value{{v}, {a, v}, {v, a}, {a, integer(0), v}, {a, v, a}, {v, a, a}, {a, a, a, a, v}} {
					got, e := arith.Call(name, args)
					hold(t, got, e, api.Value{}, api.ErrArg, name, why)
				}
			}
		}
	}
}

// spare answers a value whose list of items has room behind, with something in it.
func spare(v api.Value) api.Value {
	room := append(slices.Clone(v.Items), slices.Repeat([]api.Value{symbol("keep")}, 5)...)
	v.Items = room[:len(v.Items)]
	return v
}

// TestLimits: what comes has as many parts, or levels, as may be, and then one more.
func TestLimits(t *testing.T) {
	full, short := numbers(0, 4095), numbers(0, 4094)
	for why, x := range map[string]struct {
		name string
		args []api.Value
		want api.Value
		e    api.Errno
	}{
		"push to 4096 parts":      {"push", []api.Value{list(short...), integer(4094)}, list(full...), api.OK},
		"push to 4097 parts":      {"push", []api.Value{list(full...), integer(1)}, api.Value{}, api.ErrStuck},
		"push to 16 levels":       {"push", []api.Value{list(), nested(15)}, nested(16), api.OK},
		"push to 17 levels":       {"push", []api.Value{list(), nested(16)}, api.Value{}, api.ErrStuck},
		"put of 4096 parts":       {"put", []api.Value{list(full...), integer(0), list()}, list(append([]api.Value{list()}, full[1:]...)...), api.OK},
		"put to 4097 parts":       {"put", []api.Value{list(full...), integer(0), list(integer(0))}, api.Value{}, api.ErrStuck},
		"put to 16 levels":        {"put", []api.Value{list(integer(0)), integer(0), nested(15)}, nested(16), api.OK},
		"put to 17 levels":        {"put", []api.Value{list(integer(0)), integer(0), nested(16)}, api.Value{}, api.ErrStuck},
		"put below 16 levels":     {"put", []api.Value{nested(16), integer(0), integer(0)}, list(integer(0)), api.OK},
		"with, to 4096 parts":     {"with", []api.Value{set(short...), integer(4094)}, set(full...), api.OK},
		"with, to 4097 parts":     {"with", []api.Value{set(full...), integer(-1)}, api.Value{}, api.ErrStuck},
		"with one that is there":  {"with", []api.Value{set(full...), integer(7)}, set(full...), api.OK},
		"with, to 16 levels":      {"with", []api.Value{set(), nested(15)}, set(nested(15)), api.OK},
		"with, to 17 levels":      {"with", []api.Value{set(), nested(16)}, api.Value{}, api.ErrStuck},
		"a range of 4096 parts":   {"range", []api.Value{integer(0), integer(4095)}, list(full...), api.OK},
		"a range of 4097 parts":   {"range", []api.Value{integer(0), integer(4096)}, api.Value{}, api.ErrStuck},
		"a range of 4098 parts":   {"range", []api.Value{integer(-1), integer(4096)}, api.Value{}, api.ErrStuck},
		"list of 4096 parts":      {"list", []api.Value{set(full...)}, list(full...), api.OK},
		"set of 4096 parts":       {"set", []api.Value{list(full...)}, set(full...), api.OK},
		"tail of 4096 parts":      {"tail", []api.Value{list(full...)}, list(full[1:]...), api.OK},
		"max of 4096 parts":       {"max", []api.Value{list(full...)}, integer(4094), api.OK},
		"size of 4096 parts":      {"size", []api.Value{set(full...)}, integer(4095), api.OK},
		"min of 16 levels":        {"min", []api.Value{nested(16)}, nested(15), api.OK},
		"head of 16 levels":       {"head", []api.Value{nested(16)}, nested(15), api.OK},
		"subsets of 11 items":     {"subsets", []api.Value{set(numbers(0, 11)...)}, api.Value{}, api.ErrStuck},
		"subsets of 10 items":     {"subsets", []api.Value{set(numbers(0, 10)...)}, api.Value{}, api.ErrStuck},
		"subsets of many":         {"subsets", []api.Value{set(full...)}, api.Value{}, api.ErrStuck},
		"subsets to 17 levels":    {"subsets", []api.Value{set(nested(15))}, api.Value{}, api.ErrStuck},
		"subsets to 16 levels":    {"subsets", []api.Value{set(nested(14))}, set(set(), set(nested(14))), api.OK},
		"subsets to 4096 parts":   {"subsets", []api.Value{set(list(short[:4092]...))}, set(set(), set(list(short[:4092]...))), api.OK},
		"subsets to 4097 parts":   {"subsets", []api.Value{set(list(short[:4093]...))}, api.Value{}, api.ErrStuck},
		"subsets of 9 great ones": {"subsets", []api.Value{set(list(full[:9]...), list(full[1:10]...), list(full[2:11]...), list(full[3:12]...), list(full[4:13]...), list(full[5:14]...), list(full[6:15]...), list(full[7:16]...), list(full[8:17]...))}, api.Value{}, api.ErrStuck},
	} {
		v, e := arith.Call(x.name, x.args)
		hold(t, v, e, x.want, x.e, why)
	}
	nine, e := arith.Call("subsets", []api.Value{set(numbers(0, 9)...)})
	want, wantE := modelSubsets(numbers(0, 9))
	hold(t, nine, e, want, wantE, "subsets of 9 items")
	if len(nine.Items) != 512 {
		t.Error("subsets of 9 items:", len(nine.Items))
	}
}

func TestBinaryAtTheLimits(t *testing.T) {
	full := numbers(0, 4095)
	for why, x := range map[string]struct {
		op   string
		a, b api.Value
		want api.Value
		e    api.Errno
	}{
		"+ to 4096 parts":      {"+", list(full[:2000]...), list(full[2000:]...), list(full...), api.OK},
		"+ to 4097 parts":      {"+", list(full[:2001]...), list(full[2000:]...), api.Value{}, api.ErrStuck},
		"+ of nothing":         {"+", list(full...), list(), list(full...), api.OK},
		"| to 4096 parts":      {"|", set(full[:2000]...), set(full[1000:]...), set(full...), api.OK},
		"| to 4097 parts":      {"|", set(full...), set(integer(-1)), api.Value{}, api.ErrStuck},
		"& of 4096 parts":      {"&", set(full...), set(full...), set(full...), api.OK},
		"\\ of 4096 parts":     {"\\", set(full...), set(integer(-1)), set(full...), api.OK},
		"in 4096 parts":        {"in", integer(4094), list(full...), truth(true), api.OK},
		"not in 4096 parts":    {"in", integer(4095), set(full...), truth(false), api.OK},
		"== of 4096 parts":     {"==", list(full...), list(full...), truth(true), api.OK},
		"in 16 levels":         {"in", nested(15), nested(16), truth(true), api.OK},
		"16 levels in nothing": {"in", nested(16), set(), truth(false), api.OK},
	} {
		v, e := arith.Binary(x.op, x.a, x.b)
		hold(t, v, e, x.want, x.e, why)
	}
}

// R3

// calls answers every call with these arguments, each by what it is.
func calls(a, b, c api.Value) map[string]func() (api.Value, api.Errno) {
	out := map[string]func() (api.Value, api.Errno){
		"field": func() (api.Value, api.Errno) { return arith.Field(a, 0) },
	}
	for _, op := range operators() {
		out["unary "+op] = func() (api.Value, api.Errno) { return arith.Unary(op, a) }
		out["binary "+op] = func() (api.Value, api.Errno) { return arith.Binary(op, a, b) }
	}
	for _, name := range arith.Functions() {
		out[name] = func() (api.Value, api.Errno) {
			return arith.Call(name, []api.Value{a, b, c}[:arith.Arity(name)])
		}
	}
	return out
}

// shares tells whether two values hold a place of memory in common.
func shares(a, b api.Value) bool {
	places := map[*api.Value]bool{}
	var down func(v api.Value, visit func(*api.Value))
	down = func(v api.Value, visit func(*api.Value)) {
		for i := range v.Items {
			visit(&v.Items[i])
			down(v.Items[i], visit)
		}
	}
	down(a, func(p *api.Value) { places[p] = true })
	found := false
	down(b, func(p *api.Value) { found = found || places[p] })
	return found
}

func TestAnswersAreTheCallersOwn(t *testing.T) {
	inner := tuple(list(integer(1)), set(integer(2)))
	rows := []api.Value{inner, list(inner, inner), set(inner), list(inner, list(inner)), set(list(inner), set(inner)), integer(0), tuple(inner, inner), gauss(1, 2)}
	for _, a := range rows {
		for _, b := range rows {
			for _, c := range rows {
				x, y, z := deepCopy(a), deepCopy(b), deepCopy(c)
				for what, call := range calls(x, y, z) {
					v, e := call()
					if e != api.OK {
						continue
					}
					if shares(v, x) || shares(v, y) || shares(v, z) {
						t.Fatalf("%s of %v, %v, %v shares memory", what, a, b, c)
					}
					for i, item := range v.Items {
						for _, other := range v.Items[:i] {
							if shares(item, other) {
								t.Fatalf("%s of %v, %v, %v: two items share memory", what, a, b, c)
							}
						}
					}
					spoil(v)
				}
				if !equal(x, a) || !equal(y, b) || !equal(z, c) {
					t.Fatalf("%v, %v, %v: changed", a, b, c)
				}
			}
		}
	}
}

// TestNothingHandedInIsChanged: neither what is handed in, nor what lies behind it in its lists.
func TestNothingHandedInIsChanged(t *testing.T) {
	for _, a := range few() {
		for _, b := range few() {
			for _, c := range few() {
				x, y, z := spare(a), spare(b), spare(c)
				for what, call := range calls(x, y, z) {
					call()
					for i, v := range []api.Value{x, y, z} {
						if !equal(v, []api.Value{a, b, c}[i]) || slices.ContainsFunc(v.Items[len(v.Items):len(v.Items)+5], func(w api.Value) bool { return w.Text != "keep" }) {
							t.Fatalf("%s has changed %v to %v", what, []api.Value{a, b, c}[i], v)
						}
					}
				}
			}
		}
	}
}
