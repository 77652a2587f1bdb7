package sorts_test

import (
	"maps"
	"slices"
	"strings"
	"testing"

	"sextant/api"
	"sextant/arith"
	"sextant/sorts"
	"sextant/syntax"
	"sextant/value"
)

// P12.5

// known are the names that mean something in the expressions of these tests.
func known() ([]string, []api.Sort) {
	l := map[string]string{
		"i": "int", "b": "bool", "y": "symbol", "g": "gauss", "li": "list int", "lb": "list bool", "le": "list ?", "si": "set int", "sy": "set symbol", "se": "set ?",
		"n": "?", "t": "(int, bool)", "te": "()", "tl": "(list ?, int)", "ll": "list list int", "ss": "set set int", "lt": "list (int, symbol)",
	}
	var given []api.Sort
	names := slices.Sorted(maps.Keys(l))
	for _, n := range names {
		given = append(given, so(l[n]))
	}
	return names, given
}

// holdSort fails unless an expression has that sort.
func holdSort(t *testing.T, s, want string) {
	t.Helper()
	names, given := known()
	got, f := sorted(t, parsed(t, syntax.Expr, s), names, given)
	if f != (api.Fault{}) || show(got) != show(so(want)) {
		t.Errorf("%s: %s, %+v, want %s", s, show(got), f, want)
	}
}

// holdFault fails unless the fault is that one, at the mark @.
func holdFault(t *testing.T, s string, code api.Errno) {
	t.Helper()
	names, given := known()
	plain, off := marked(s)
	_, f := sorted(t, parsed(t, syntax.Expr, plain), names, given)
	if f.Code != code || f.At.Off != off || f.At.Line != 1 {
		t.Errorf("%s: %+v, want %d at %d", s, f, code, off)
	}
}

func TestExprExamples(t *testing.T) {
	for s, want := range map[string]string{
		"[]": "list ?", "[1] + []": "list int", "push([], #a)": "list symbol", "head([]) + 1": "int",
		"fold x, a over {1} from [] with push(a, x)": "list int", "(1, true).1": "bool",
	} {
		holdSort(t, s, want)
	}
	for s, code := range map[string]api.Errno{
		"@fold x, a over {1} from [] with [a]": api.ErrUnlike, "@if true then 1 else #a": api.ErrUnlike, "1 @in [true]": api.ErrUnlike,
		"@f(1)": api.ErrUnknown, "@size(1)": api.ErrUnlike, "(1, true)@.2": api.ErrUnlike,
	} {
		holdFault(t, s, code)
	}
}

func TestExprLiteralsAndNames(t *testing.T) {
	for s, want := range map[string]string{"1": "int", "-7": "int", "true": "bool", "#a": "symbol", "i": "int", "n": "?", "te": "()", "tl": "(list ?, int)", "lt": "list (int, symbol)"} {
		holdSort(t, s, want)
	}
	for _, s := range []string{"@x", "1 + @x", "(@x, z)", "size(@ii)", "[i, @I]", "{b, [@x]}"} {
		holdFault(t, s, api.ErrUnknown)
	}
	for _, v := range []struct {
		of   api.Value
		want string
	}{
		{gauss(1, 2), "gauss"}, {rowOf(api.KList), "list ?"}, {rowOf(api.KTuple, integer(1), rowOf(api.KSet, sym("a"))), "(int, set symbol)"},
		{rowOf(api.KList, rowOf(api.KSet), rowOf(api.KSet, integer(1))), "list set int"}, {integer(-1 << 63), "int"},
	} {
		got, f := sorted(t, lit(v.of), nil, nil)
		if f.Code != api.OK || show(got) != show(so(v.want)) {
			t.Errorf("%+v: %s, %+v", v.of, show(got), f)
		}
	}
	for _, v := range append(wrongValues(), rowOf(api.KList, integer(1), boolean(1)), rowOf(api.KTuple, slices.Repeat([]api.Value{rowOf(api.KSet)}, 2048)...)) {
		e := of(api.ETuple, lit(v))
		next := 0
		place(&e, &next)
		if _, f := sorts.Expr(e, nil, nil); f != (api.Fault{Code: api.ErrUnlike, At: e.Items[0].At}) {
			t.Errorf("%+v: %+v", v.Kind, f)
		}
	}
}

// Of like names the last one counts; what one list has more than the other counts for nothing; what may not be is SNone.
func TestExprNames(t *testing.T) {
	for _, x := range []struct {
		names []string
		sorts []api.Sort
		want  string // of x
	}{
		{[]string{"x"}, soAll("int"), "int"},
		{[]string{"x", "x"}, soAll("int", "bool"), "bool"},
		{[]string{"x", "y", "x", "y"}, soAll("int", "bool", "(int,)", "gauss"), "(int,)"},
		{[]string{"x", "x"}, soAll("int"), "int"},
		{[]string{"y", "x"}, soAll("int"), ""},
		{[]string{"x"}, soAll("int", "bool"), "int"},
		{[]string{"x"}, nil, ""},
		{nil, soAll("int"), ""},
		{[]string{"y"}, soAll("int", "bool"), ""},
		{[]string{"x"}, []api.Sort{sortOf(9)}, "?"},
		{[]string{"x", "x"}, []api.Sort{so("int"), sortOf(api.SList)}, "?"},
		{[]string{"x"}, []api.Sort{nested(64, so("int"))}, "?"},
		{[]string{"x"}, []api.Sort{wide(4096, so("int"))}, "?"},
		{[]string{"x"}, []api.Sort{sortOf(api.SInt, so("int"))}, "?"},
		{[]string{"x"}, soAll("list ?"), "list ?"},
	} {
		got, f := sorted(t, name("x"), x.names, x.sorts)
		if x.want == "" && f.Code != api.ErrUnknown || x.want != "" && (f.Code != api.OK || show(got) != show(so(x.want))) {
			t.Errorf("%q: %s, %+v", x.names, show(got), f)
		}
	}
	great := wide(4095, so("int"))
	if got, f := sorted(t, name("x"), []string{"x"}, []api.Sort{great}); f.Code != api.OK || show(got) != show(great) {
		t.Error("a great one:", f)
	}
	if got, f := sorted(t, of(api.ETuple, name("x"), name("x")), []string{"x"}, soAll("(list int, set int)")); f.Code != api.OK || show(got) != show(so("((list int, set int), (list int, set int))")) {
		t.Error("one that stands twice:", f)
	}
}

func TestExprRows(t *testing.T) {
	for s, want := range map[string]string{
		"()": "()", "(1,)": "(int,)", "(1, true, [#a])": "(int, bool, list symbol)", "[]": "list ?", "{}": "set ?", "[1, i]": "list int", "{#a}": "set symbol",
		"[[], [1], []]": "list list int", "{([], {1}), ([true], {})}": "set (list bool, set int)", "[n]": "list ?", "[n, 1, n]": "list int", "(n, n)": "(?, ?)",
		"[le, li]": "list list int", "{n, n}": "set ?",
	} {
		holdSort(t, s, want)
	}
	for _, s := range []string{"@[1, true]", "@{1, #a, 2}", "[1, @[1, true]]", "(@{i, g}, [1, b])", "@[[1], [true]]", "@[[], {}]", "@[(1,), (1, 1)]", "@[(), t]", "@{1, n, b}"} {
		holdFault(t, s, api.ErrUnlike)
	}
}

// operands are texts of expressions of many sorts, with these.
var operands = map[string]string{
	"i": "int", "b": "bool", "y": "symbol", "g": "gauss", "te": "()", "t": "(int, bool)", "tl": "(list ?, int)", "li": "list int", "lb": "list bool", "le": "list ?",
	"si": "set int", "sy": "set symbol", "se": "set ?", "ll": "list list int", "ss": "set set int", "n": "?",
}

// Every operator with every two operands, as the rows of the model say.
func TestExprOperators(t *testing.T) {
	for op := range strings.SplitSeq(`or and == != < <= > >= in | & \ + - * / %`, " ") {
		taken := 0
		for a, as := range operands {
			for b, bs := range operands {
				args := soAll(as, bs)
				if slices.Contains([]string{"+", "-", "*"}, op) {
					args = alikeNone(args)
				}
				want, _, ok := called(operatorRows, op, args)
				if ok {
					taken++
					holdSort(t, a+" "+op+" "+b, textOf(want))
				} else {
					holdFault(t, a+" @"+op+" "+b, api.ErrUnlike)
				}
			}
		}
		if taken == 0 {
			t.Error(op)
		}
	}
	for s, want := range map[string]string{
		"-i": "int", "-g": "gauss", "-n": "?", "not b": "bool", "not n": "bool", "- -i": "int", "-(5)": "int", "not not b": "bool",
		"1 + 2 * 3": "int", "g * g - g": "gauss", "[1] + [] + [2]": "list int", "[] + []": "list ?", "n + n": "?", "n * 1": "int", "g - n": "gauss", "n + li": "list int", "li + n": "list int", "n + le": "list ?",
		"n / n": "int", "1 % n": "int", "n and n": "bool", "n == 1": "bool", "n < n": "bool", "[] == [1]": "bool", "([], 1) < ([1], 2)": "bool", "1 in {}": "bool", "1 in n": "bool", "n in li": "bool", "[] in {[1]}": "bool",
		"n | n": "set ?", "n & si": "set int", "si \\ n": "set int", "{} | {}": "set ?", "{[]} | {[1]}": "set list int", "te == te": "bool", "(1, []) == (2, [1])": "bool",
	} {
		holdSort(t, s, want)
	}
	for _, s := range []string{"@-b", "@-le", "@-te", "@not i", "@not le", "@not y", "n @- le", "n @+ b", "n @* si", "si @+ si", "t @+ t", "1 @+ g", "li @- li", "li @+ si", "[1] @+ [true]", "1 @/ g", "g @% g", "1 @== g", "te @< t", "1 @in 1", "1 @in t", "b @in si", "li @| li", "si @& sy", "1 @\\ si"} {
		holdFault(t, s, api.ErrUnlike)
	}
}

// textOf writes a sort as so reads it.
func textOf(s api.Sort) string {
	var items []string
	for _, item := range s.Items {
		items = append(items, textOf(item))
	}
	l := strings.Join(items, " , ")
	return []string{"?", "int", "bool", "symbol", "gauss", "( " + l + " )", "list " + l, "set " + l}[s.Kind]
}

// Every function with every argument, or two, or three, as the rows of the model say.
func TestExprFunctions(t *testing.T) {
	texts := slices.Sorted(maps.Keys(operands))
	for _, f := range arith.Functions() {
		var rows [][]string
		for range arith.Arity(f) {
			var longer [][]string
			for _, a := range texts {
				for _, row := range append(rows, nil) {
					if len(rows) == 0 || row != nil {
						longer = append(longer, append(slices.Clone(row), a))
					}
				}
			}
			rows = longer
		}
		taken := 0
		for _, row := range rows {
			var args []api.Sort
			for _, a := range row {
				args = append(args, so(operands[a]))
			}
			want, known, ok := called(functionRows, f, args)
			s := f + "(" + strings.Join(row, ", ") + ")"
			if !known {
				t.Fatal("no row of the model:", s)
			}
			if ok {
				taken++
				holdSort(t, s, textOf(want))
			} else {
				holdFault(t, "@"+s, api.ErrUnlike)
			}
		}
		if taken < 2 || taken == len(rows) {
			t.Error(f, taken, len(rows))
		}
	}
}

func TestExprUnknownFunctions(t *testing.T) {
	for _, s := range []string{"@f()", "@f(1)", "@size()", "@size([], 1)", "@at([])", "@put([], 0)", "@put([], 0, 1, 2)", "@range(1)", "@not_()", "@Size([])", "@sizes([])", "@len([])", "@with({}, 1, 2)", "1 + @and(b, b)", "size(@x([]))"} {
		holdFault(t, s, api.ErrUnknown)
	}
	for _, op := range []string{"", "+", "-", "not", "size ", "if", strings.Repeat("f", 100), "\xff"} {
		for items := range 4 {
			e := call(op, slices.Repeat([]api.Expr{number(1)}, items)...)
			if _, f := sorts.Expr(e, nil, nil); f.Code != api.ErrUnknown {
				t.Errorf("%q of %d: %+v", op, items, f)
			}
		}
	}
}

func TestExprIfLetField(t *testing.T) {
	for s, want := range map[string]string{
		"if b then 1 else 2": "int", "if n then 1 else 2": "int", "if b then [] else [1]": "list int", "if b then n else #a": "symbol", "if b then (le, si) else (lb, se)": "(list bool, set int)", "if b then n else n": "?",
		"let x = 1 do x": "int", "let i = #a do i": "symbol", "let x = [] do push(x, 1)": "list int", "let x = 1 do let x = [x] do x": "list int", "(let i = b do i, i)": "(bool, int)", "let x = let x = 1 do {x} do x": "set int", "let if' = 1 do 2": "int",
		"t.0": "int", "t.1": "bool", "tl.0": "list ?", "n.0": "?", "n.7.3": "?", "n.9223372036854775807": "?", "((1, (true, #a)),).0.1.1": "symbol", "head(lt).1": "symbol",
	} {
		holdSort(t, s, want)
	}
	for _, s := range []string{
		"@if 1 then 1 else 2", "@if le then 1 else 2", "@if te then 1 else 2", "@if b then 1 else true", "@if b then [1] else {1}", "@if b then t else te", "@if i then 1 else #a",
		"let x = 1 do x @and b", "let i = b do i @+ 1", "t@.2", "t@.9223372036854775807", "te@.0", "i@.0", "li@.0", "si@.0", "y@.0", "t.0@.0", "t.1@.1",
	} {
		holdFault(t, s, api.ErrUnlike)
	}
	for _, s := range []string{"let x = @x do 1", "(let x = 1 do x, @x)", "let x = 1 do @z", "if @x then 1 else 2", "if b then @x else 1", "if b then 1 else @x", "@x.0", "let x = let z = 1 do 2 do @z"} {
		holdFault(t, s, api.ErrUnknown)
	}
}

func TestExprFold(t *testing.T) {
	for s, want := range map[string]string{
		"fold x, a over li from 0 with a + x": "int", "fold x, a over si from {} with with(a, x)": "set int", "fold x, a over [] from 0 with a": "int", "fold x, a over n from 0 with x + a": "int", "fold x, a over {} from [] with push(a, x)": "list ?",
		"fold x, a over li from n with x": "int", "fold x, a over li from [] with []": "list ?", "fold x, a over li from [[]] with a + [[x]]": "list list int", "fold x, a over li from ([], {}) with (push(a.0, x), with(a.1, y))": "(list int, set symbol)",
		"fold x, a over lt from {} with with(a, x.1)": "set symbol", "fold x, x over lb from 0 with x + 1": "int", "fold a, x over lb from 0 with x + 1": "int", "fold i, n over lb from [] with [i] + n": "list bool",
		"fold x, a over fold x, a over li from [] with push(a, [x]) from {} with a | set(x)": "set int", "fold x, a over li from fold x, a over li from true with a with not a": "bool",
		"fold x, a over li from n with a": "?", "(fold i, b over lb from [] with push(b, i), i, b)": "(list bool, int, bool)", "fold x, a over si from [1] with []": "list int", "fold x, a over li from [] with if x == 0 then a else [x]": "list int",
		"fold x, a over li from [1] with []": "list int", "fold x, a over ll from [] with if a == [] then x else tail(a)": "list int",
	} {
		holdSort(t, s, want)
	}
	for _, s := range []string{
		"@fold x, a over li from [] with [a]", "@fold x, a over 1 from 0 with a", "@fold x, a over t from 0 with a", "@fold x, a over te from 0 with a", "@fold x, a over li from 0 with b", "@fold x, a over li from [] with {x}",
		"@fold x, a over li from 0 with [a]", "@fold x, a over y from n with x", "@fold x, a over li from n with [a]", "@fold x, a over li from {} with {a}",
		// of the third item's faults: in the first scope, in the second alone, and they come ahead of what the fold goes over
		"fold x, a over li from 0 with a @+ y", "fold x, a over lb from 0 with a @+ x", "fold x, a over 1 from 0 with @not a", "@fold x, a over 1 from 0 with if x + a == a then y else x",
		"fold x, a over li from [] with let z = (a @+ [y]) do [1]", "fold x, a over li from ([], []) with ([x], a.0 @+ [a.1])", "fold x, a over 1 from [] with let z = (a @+ [y]) do [1]", "fold x, a over [y] from [] with (a + [1]) @+ [x]",
		"fold x, a over li from n with if a @== y then 1 else 2", "@fold x, a over 1 from [] with let z = (a + [y]) do {1}",
		"fold x, a over (1 @+ b) from not 1 with not 1", "fold x, a over 1 from @-b with not a", "fold x, a over 1 from 0 with fold y, c over [[]] from a with (c @and b)",
	} {
		holdFault(t, s, api.ErrUnlike)
	}
	for _, s := range []string{"fold x, a over @x from a with 1", "fold x, a over li from @a with 1", "fold x, a over li from 0 with @z", "(fold x, a over li from 0 with a, @x)", "(fold x, a over li from 0 with a, @a)", "fold x, a over 1 from 0 with @z", "fold x, a over 1 from 0 with @f(a)", "fold x, x over li from @x with 0"} {
		holdFault(t, s, api.ErrUnknown)
	}
}

// The order of faults: the form, then the items from the first on, then the own one.
func TestExprOrderOfFaults(t *testing.T) {
	for s, code := range map[string]api.Errno{
		"(@x, not 1)": api.ErrUnknown, "(@not 1, x)": api.ErrUnlike, "f(@not 1, x)": api.ErrUnlike, "f(@x)": api.ErrUnknown, "size(@f(1), 2)": api.ErrUnknown, "[1, true, @x]": api.ErrUnknown, "if 1 then 2 else @x": api.ErrUnknown,
		"1 + (true @+ 1)": api.ErrUnlike, "true + (@x)": api.ErrUnknown, "let x = @not 1 do z": api.ErrUnlike, "{1, true, @{1, true}}": api.ErrUnlike, "(@y(1)).5": api.ErrUnknown, "-(@{1, true})": api.ErrUnlike,
	} {
		holdFault(t, s, code)
	}
}

// forms answers expressions, each with whether its form is a text's.
func forms() map[bool][]api.Expr {
	one, two, three := number(1), []api.Expr{number(1), number(2)}, []api.Expr{boolean1(), number(2), number(3)}
	list := lit(rowOf(api.KList))
	wrong := []api.Expr{
		{}, {Kind: -1}, {Kind: 13}, {Kind: 13, Items: two}, {Kind: 1 << 40},
		{Kind: api.ELit}, {Kind: api.ELit, Value: integer(1), Items: []api.Expr{one}}, lit(boolean(2)), lit(sym("true")), lit(sym("")),
		name(""), name("1"), name("a b"), name("+"), name("é\xff"), name(strings.Repeat("x", 33)), {Kind: api.EName, Name: "x", Items: []api.Expr{one}},
		of(api.EUnary), unary("", one), unary("+", one), unary("--", one), unary("and", boolean1()), {Kind: api.EUnary, Op: "-", Items: two}, {Kind: api.EUnary, Op: "-"},
		pair(one, "", one), pair(one, "not", one), pair(one, "=", one), pair(one, "**", one), pair(one, "+ ", one), pair(one, "||", one), pair(one, "size", one),
		{Kind: api.EBin, Op: "+"}, {Kind: api.EBin, Op: "+", Items: []api.Expr{one}}, {Kind: api.EBin, Op: "+", Items: three},
		of(api.EIf), of(api.EIf, two...), of(api.EIf, boolean1(), one, one, one),
		let("", one, one), let("1", one, one), let("a b", one, one), let(strings.Repeat("x", 33), one, one), {Kind: api.ELet, Name: "x", Items: []api.Expr{one}}, {Kind: api.ELet, Name: "x", Items: three},
		fold("", "a", list, one, one), fold("x", "", list, one, one), fold("x", "1", list, one, one), fold("x y", "a", list, one, one), {Kind: api.EFold, Name: "x", Also: "a", Items: two}, {Kind: api.EFold, Name: "x", Also: "a", Items: append(three, one)},
		field(of(api.ETuple, one), -1), field(of(api.ETuple, one), -1<<63), of(api.EField, of(api.ETuple, one)), {Kind: api.EField, Value: integer(0)}, {Kind: api.EField, Value: integer(0), Items: two},
		{Kind: api.EField, Value: boolean(0), Items: []api.Expr{of(api.ETuple, one)}}, {Kind: api.EField, Value: api.Value{Kind: api.KInt, Im: 1}, Items: []api.Expr{of(api.ETuple, one)}}, {Kind: api.EField, Value: api.Value{Kind: api.KInt, Text: "a"}, Items: []api.Expr{of(api.ETuple, one)}},
		{Kind: api.EField, Value: gauss(0, 0), Items: []api.Expr{of(api.ETuple, one)}},
	}
	right := []api.Expr{
		one, list, boolean1(), of(api.ETuple), of(api.EList, two...), of(api.ESet, three[1:]...), unary("-", one), unary("not", boolean1()), of(api.EIf, three...),
		let("x", one, name("x")), let("true", one, name("true")), let("if", one, name("if")), let(strings.Repeat("x", 32), one, one), let("λ'", one, name("λ'")), fold("x", "false", list, one, name("false")), field(of(api.ETuple, one), 0),
		// other fields are not looked at
		{Kind: api.ELit, Value: integer(1), Name: "a b", Also: "1", Op: "++"},
		{Kind: api.ETuple, Value: api.Value{Kind: 99}, Name: "a b", Also: "1", Op: "++"},
		{Kind: api.EUnary, Op: "-", Value: api.Value{Kind: 99}, Name: "1", Also: " ", Items: []api.Expr{one}},
		{Kind: api.EBin, Op: "+", Value: api.Value{Kind: 99}, Name: "1", Also: " ", Items: two},
		{Kind: api.EIf, Op: "?", Value: api.Value{Kind: 99}, Name: "1", Also: " ", Items: three},
		{Kind: api.ELet, Name: "x", Op: "?", Value: api.Value{Kind: 99}, Also: " ", Items: two},
		{Kind: api.EFold, Name: "x", Also: "a", Op: "?", Value: api.Value{Kind: 99}, Items: []api.Expr{list, one, one}},
		{Kind: api.ECall, Op: "range", Value: api.Value{Kind: 99}, Name: "1", Also: " ", Items: two},
		{Kind: api.EField, Value: integer(0), Op: "?", Name: "1", Also: " ", Items: []api.Expr{of(api.ETuple, one)}},
	}
	return map[bool][]api.Expr{true: right, false: wrong}
}

func boolean1() api.Expr { return lit(boolean(1)) }

func TestExprForms(t *testing.T) {
	for right, list := range forms() {
		for _, e := range list {
			for _, whole := range []api.Expr{e, of(api.ETuple, number(1), e), call("f", e), let("y", e, number(1))} {
				next := 0
				place(&whole, &next)
				_, f := sorted(t, whole, []string{"x"}, soAll("int"))
				want, fault := modelExpr(whole, []string{"x"}, soAll("int"))
				if f != fault {
					t.Errorf("%+v: %+v, want %s, %+v", whole, f, show(want), fault)
				}
				if known := whole.Kind != api.ECall || whole.Op != "f"; known && (f.Code == api.OK) != right || f.Code == api.ErrUnknown && !right {
					t.Errorf("%+v: %+v", whole, f)
				}
			}
		}
	}
	// The form comes ahead of what is wrong with the items, and an item's form behind what is wrong with those ahead of it.
	bad, unknown := api.Expr{Kind: 13, Items: []api.Expr{name("z")}}, name("z")
	bad.At, unknown.At = api.Spot{Off: 7, Line: 1, Col: 8}, api.Spot{Off: 3, Line: 1, Col: 4}
	for _, x := range []struct {
		e    api.Expr
		want api.Fault
	}{
		{bad, api.Fault{Code: api.ErrUnlike, At: bad.At}},
		{of(api.ETuple, unknown, bad), api.Fault{Code: api.ErrUnknown, At: unknown.At}},
		{of(api.ETuple, bad, unknown), api.Fault{Code: api.ErrUnlike, At: bad.At}},
	} {
		if _, f := sorts.Expr(x.e, nil, nil); f != x.want {
			t.Errorf("%+v: %+v", x.e, f)
		}
	}
}

// A fold lies within the third items of seven others at most; their first and second items are nothing to that.
func TestExprFoldsWithinFolds(t *testing.T) {
	build := func(item, folds int) api.Expr {
		e := number(0)
		for range folds {
			items := []api.Expr{of(api.EList), number(1), number(2)}
			items[item] = of(api.EIf, boolean1(), items[item], e)
			if item == 0 {
				items[item] = of(api.EIf, boolean1(), of(api.EList), of(api.EList, e))
			}
			e = fold("x", "a", items[0], items[1], items[2])
		}
		return e
	}
	for item := range 3 {
		for folds := range 11 {
			_, f := sorted(t, build(item, folds), nil, nil)
			if want := item == 2 && folds > 8; (f.Code == api.ErrUnlike) != want || !want && f.Code != api.OK {
				t.Error(item, folds, f)
			}
		}
	}
	// The fault stands at the ninth one.
	e := number(0)
	for i := range 9 {
		e = fold("x", "a", of(api.EList), number(1), e)
		e.At = api.Spot{Off: 100 + i, Line: 1}
	}
	if _, f := sorts.Expr(e, nil, nil); f != (api.Fault{Code: api.ErrUnlike, At: api.Spot{Off: 100, Line: 1}}) {
		t.Error(f)
	}
	// Eight that all go on with more than they begin with: each third item is looked at twice.
	e = name("x7")
	for i := 7; i >= 0; i-- {
		n := "x" + string(rune('0'+i))
		e = fold(n, "a", of(api.EList, number(1)), of(api.EList), of(api.EList, e))
	}
	if s, f := sorted(t, e, nil, nil); f.Code != api.OK || show(s) != show(nested(8, so("int"))) {
		t.Error(show(s), f)
	}
}

// A sort that may not be is ErrUnlike where it would come about.
func TestExprAboveTheLimits(t *testing.T) {
	names := []string{"deep", "deeps", "less", "great", "half", "other"}
	given := []api.Sort{nested(63, so("int")), setOf(nested(62, so("int"))), nested(62, so("int")), wide(4095, so("int")), tupleOf(wide(3000, so("int")), so("?")), tupleOf(so("?"), wide(3000, so("int")))}
	for s, ok := range map[string]bool{
		"deep": true, "@[deep]": false, "[less]": true, "[@[[less]]]": false, "@{deep}": false, "@(deep,)": false, "(less, less)": true, "((@(less, deep), 1), 2)": false, "great": true, "@(great,)": false, "@[great]": false, "@{great}": false,
		"[@[great]]": false, "[half]": true, "@[half, other]": false, "half @== other": false, "@if true then half else other": false, "half @in {other}": false, "{half} @| {other}": false, "[half] @+ [other]": false, "@push([half], other)": false, "@put([half], 0, other)": false, "@with({half}, other)": false,
		"@without({half}, other)": false, "@fold x, a over [1] from half with other": false, "half == half": true, "deep == deep": true, "{less} == {}": true,
		"@subsets(deeps)": false, "subsets({head(head(less))})": true, "tail(deep)": true, "list(deeps)": true, "size(deep)": true, "let x = half do @(x, x)": false, "[head(deep)]": true, "@push(deep, deep)": false, "@push([], deep)": false, "push([], less)": true, "push(deep, less)": true,
		"fold x, a over [1] from [] with @[a, less]": false, "fold x, a over [1] from [] with @[a, deep]": false, "(deep == deep, great == great)": true, "@(half, half)": false, "(half.1, half.1)": true,
	} {
		plain, off := marked(s)
		_, f := sorted(t, parsed(t, syntax.Expr, plain), names, given)
		if ok != (f.Code == api.OK) || !ok && (f.Code != api.ErrUnlike || f.At.Off != off) {
			t.Errorf("%s: %+v", s, f)
		}
	}
	// 4095 items have a sort, 4096 have none.
	for items, want := range map[int]api.Errno{4095: api.OK, 4096: api.ErrUnlike} {
		if _, f := sorts.Expr(of(api.ETuple, slices.Repeat([]api.Expr{number(1)}, items)...), nil, nil); f.Code != want {
			t.Error(items, f)
		}
		if _, f := sorts.Expr(of(api.EList, slices.Repeat([]api.Expr{number(1)}, items)...), nil, nil); f.Code != api.OK {
			t.Error("a list of", items, f)
		}
	}
}

// The document's bound lets 2^16 parts lie within one another.
func TestExprDeep(t *testing.T) {
	wraps := map[string]func(e api.Expr) api.Expr{
		"minus": func(e api.Expr) api.Expr { return unary("-", e) },
		"left":  func(e api.Expr) api.Expr { return pair(e, "+", number(1)) },
		"right": func(e api.Expr) api.Expr { return pair(number(1), "+", e) },
		"let":   func(e api.Expr) api.Expr { return let("x", number(1), e) },
		"bound": func(e api.Expr) api.Expr { return let("x", e, name("x")) },
		"if":    func(e api.Expr) api.Expr { return of(api.EIf, boolean1(), number(1), e) },
		"call":  func(e api.Expr) api.Expr { return call("head", of(api.EList, e)) },
		"field": func(e api.Expr) api.Expr { return field(of(api.ETuple, e), 0) },
		"fold":  func(e api.Expr) api.Expr { return fold("x", "a", of(api.EList), e, name("a")) },
	}
	for what, wrap := range wraps {
		e := number(1)
		e.At.Off = 5
		for range 1 << 16 {
			e = wrap(e)
		}
		if s, f := sorts.Expr(e, nil, nil); f.Code != api.OK || s.Kind != api.SInt {
			t.Error(what, show(s), f)
		}
	}
	e := name("z")
	e.At.Off = 5
	for range 1 << 16 {
		e = unary("-", e)
	}
	if s, f := sorts.Expr(e, nil, nil); f.Code != api.ErrUnknown || f.At.Off != 5 || s.Kind != api.SNone {
		t.Error(show(s), f)
	}
}

// R1: a call ends even of an expression, or a value, that is an item of itself.
func TestExprWithinItself(t *testing.T) {
	for _, e := range []api.Expr{
		of(api.EList, boolean1(), number(1)), of(api.EIf, boolean1(), number(1), number(2)), call("put", of(api.EList), number(1), number(2)), fold("x", "a", of(api.EList), number(1), number(2)),
		let("x", number(1), number(2)), pair(number(1), "+", number(2)), unary("-", number(1)), field(of(api.ETuple, number(1)), 0),
	} {
		for i := range e.Items {
			looped := e
			looped.Items = slices.Clone(e.Items)
			looped.Items[i] = looped
			if _, f := sorts.Expr(looped, nil, nil); f.Code != api.ErrUnlike {
				t.Error(e.Kind, i, f)
			}
		}
	}
	if _, f := sorts.Expr(lit(selfValue()), nil, nil); f.Code != api.ErrUnlike || value.Check(selfValue()) == api.OK {
		t.Error(f)
	}
}
