package spell_test

import (
	"fmt"
	"math/rand"
	"slices"
	"strings"
	"testing"

	"sextant/api"
	"sextant/spell"
	"sextant/syntax"
	"sextant/text"
	"sextant/value"
)

const least = -1 << 63 // the integer that no text has

func lit(v api.Value) api.Expr     { return api.Expr{Kind: api.ELit, Value: v} }
func number(n int64) api.Expr      { return lit(integer(n)) }
func integer(n int64) api.Value    { return api.Value{Kind: api.KInt, Int: n} }
func sym(s string) api.Value       { return api.Value{Kind: api.KSym, Text: s} }
func boolean(n int64) api.Value    { return api.Value{Kind: api.KBool, Int: n} }
func gauss(re, im int64) api.Value { return api.Value{Kind: api.KGauss, Int: re, Im: im} }
func name(s string) api.Expr       { return api.Expr{Kind: api.EName, Name: s} }

func rowOf(kind api.Kind, items ...api.Value) api.Value { return api.Value{Kind: kind, Items: items} }

func of(kind api.ExprKind, items ...api.Expr) api.Expr { return api.Expr{Kind: kind, Items: items} }

func call(op string, items ...api.Expr) api.Expr {
	return api.Expr{Kind: api.ECall, Op: op, Items: items}
}

func unary(op string, x api.Expr) api.Expr {
	return api.Expr{Kind: api.EUnary, Op: op, Items: []api.Expr{x}}
}

func pair(x api.Expr, op string, y api.Expr) api.Expr {
	return api.Expr{Kind: api.EBin, Op: op, Items: []api.Expr{x, y}}
}

func field(x api.Expr, n int64) api.Expr {
	return api.Expr{Kind: api.EField, Value: integer(n), Items: []api.Expr{x}}
}

func let(n string, x, y api.Expr) api.Expr {
	return api.Expr{Kind: api.ELet, Name: n, Items: []api.Expr{x, y}}
}

func fold(n, m string, x, y, z api.Expr) api.Expr {
	return api.Expr{Kind: api.EFold, Name: n, Also: m, Items: []api.Expr{x, y, z}}
}

func sortOf(kind api.SortKind, items ...api.Sort) api.Sort { return api.Sort{Kind: kind, Items: items} }

var operators = strings.Fields(`or and == != < <= > >= in | & \ + - * / %`)

var reserved = strings.Fields("true false if then else let do fold over from with and or not in when give next")

// neverCalled are the words that name no function.
var neverCalled = strings.Fields("true false if let fold not")

// The names that stand in trees by chance: anywhere, for variables, for functions.
var (
	anyNames  = strings.Fields("a b x q enq A' rule next if true for set linear row gives _ λ1 object automaton")
	variables = strings.Fields("x y state calls list set gauss int rule for is arg λ' table")
	functions = strings.Fields("f with in or and when then do give next over from else size set list x gauss")
)

func pick[T any](rnd *rand.Rand, l []T) T { return l[rnd.Intn(len(l))] }

func many[T any](rnd *rand.Rand, most int, one func() T) []T {
	var l []T
	for range rnd.Intn(most + 1) {
		l = append(l, one())
	}
	return l
}

func anyAtom(rnd *rand.Rand) api.Expr {
	switch rnd.Intn(8) {
	case 0, 1:
		return name(pick(rnd, variables))
	case 2:
		return lit(sym(pick(rnd, []string{"a", "if", "x'", "not", "λ"})))
	case 3:
		return lit(boolean(int64(rnd.Intn(2))))
	}
	return number(pick(rnd, []int64{0, 1, 5, 10, 1<<63 - 1, -1, -5, -1<<63 + 1}))
}

// anyExpr answers an expression that has a text, of at most so many levels.
func anyExpr(rnd *rand.Rand, deep int) api.Expr {
	if deep == 0 || rnd.Intn(12) == 0 {
		return anyAtom(rnd)
	}
	item := func() api.Expr { return anyExpr(rnd, deep-1) }
	variable := func() string { return pick(rnd, variables) }
	switch rnd.Intn(14) {
	case 0:
		return of(api.ETuple, many(rnd, 3, item)...)
	case 1:
		return of(api.EList, many(rnd, 3, item)...)
	case 2:
		return of(api.ESet, many(rnd, 3, item)...)
	case 3:
		return call(pick(rnd, functions), many(rnd, 3, item)...)
	case 4:
		return unary("not", item())
	case 5, 6:
		return unary("-", item())
	case 7, 8:
		return field(item(), pick(rnd, []int64{0, 1, 12, 1<<63 - 1}))
	case 9:
		return of(api.EIf, item(), item(), item())
	case 10:
		return let(variable(), item(), item())
	case 11:
		return fold(variable(), variable(), item(), item(), item())
	}
	return pair(item(), pick(rnd, operators), item())
}

func anySort(rnd *rand.Rand, deep int) api.Sort {
	kind := api.SortKind(1 + rnd.Intn(7))
	if deep == 0 {
		kind = api.SortKind(1 + rnd.Intn(4))
	}
	item := func() api.Sort { return anySort(rnd, deep-1) }
	switch kind {
	case api.STuple:
		return sortOf(kind, many(rnd, 3, item)...)
	case api.SList, api.SSet:
		return sortOf(kind, item())
	}
	return sortOf(kind)
}

// anyValue answers a right value that has a text in a row.
func anyValue(rnd *rand.Rand, deep int) api.Value {
	kind := api.Kind(1 + rnd.Intn(7))
	if deep == 0 {
		kind = api.Kind(1 + rnd.Intn(4))
	}
	item := func() api.Value { return anyValue(rnd, deep-1) }
	switch kind {
	case api.KBool:
		return boolean(int64(rnd.Intn(2)))
	case api.KInt:
		return anyInteger(rnd)
	case api.KGauss:
		parts := []int64{0, 1, -1, 7, api.MaxPart, -api.MaxPart}
		return gauss(pick(rnd, parts), pick(rnd, parts))
	case api.KSym:
		return sym(pick(rnd, []string{"a", "i", "if", "gauss", "x'", "λ9", "_"}))
	case api.KSet:
		v, _ := value.Set(many(rnd, 4, item)...)
		return v
	}
	return rowOf(kind, many(rnd, 3, item)...)
}

func anyInteger(rnd *rand.Rand) api.Value {
	return integer(pick(rnd, []int64{0, 1, -1, 42, -300, 1<<63 - 1, -1<<63 + 1}))
}

func anyRule(rnd *rand.Rand) api.Rule {
	item := func() api.Expr { return anyExpr(rnd, rnd.Intn(4)) }
	r := api.Rule{Name: pick(rnd, anyNames), When: lit(boolean(1)), Give: item(), Next: item()}
	r.Gens = many(rnd, 2, func() api.Gen { return api.Gen{Name: pick(rnd, variables), From: item()} })
	if rnd.Intn(2) == 0 {
		r.When = item()
	}
	return r
}

func anyRow(rnd *rand.Rand) api.Row {
	r := api.Row{From: anyValue(rnd, 2), To: anyValue(rnd, 2)}
	for range 1 + rnd.Intn(3) {
		r.Calls = append(r.Calls, api.RowCall{Who: pick(rnd, anyNames), Op: pick(rnd, anyNames), Arg: anyValue(rnd, 2)})
	}
	for range 1 + rnd.Intn(3) {
		r.Replies = append(r.Replies, api.RowReply{Who: pick(rnd, anyNames), Value: anyValue(rnd, 2)})
	}
	return r
}

// anySpec answers a specification that has a text.
func anySpec(rnd *rand.Rand) api.Spec {
	return api.Spec{
		Autos: many(rnd, 3, func() api.Auto {
			a := api.Auto{Name: pick(rnd, anyNames), Mode: api.Mode(1 + rnd.Intn(3)), Table: rnd.Intn(2) == 0}
			a.Arg, a.Reply, a.State = anySort(rnd, 2), anySort(rnd, 2), anySort(rnd, 2)
			a.Start = anyExpr(rnd, 2)
			if a.Table {
				a.Rows = many(rnd, 3, func() api.Row { return anyRow(rnd) })
			} else {
				a.Rules = many(rnd, 3, func() api.Rule { return anyRule(rnd) })
			}
			return a
		}),
		Binds: many(rnd, 3, func() api.Bind { return api.Bind{Object: pick(rnd, anyNames), Auto: pick(rnd, anyNames)} }),
	}
}

// hasText tells whether an expression has a text, as far as that does not hang on how many lie within one another.
func hasText(e api.Expr) bool {
	variable := func(s string) bool { return text.Name(s) == api.OK && !slices.Contains(reserved, s) }
	items, op, one, also := -1, e.Op == "", e.Name == "", e.Also == ""
	switch e.Kind {
	case api.ELit:
		v := e.Value
		kinds := v.Kind == api.KInt && v.Int != least || v.Kind == api.KBool || v.Kind == api.KSym
		return kinds && value.Check(v) == api.OK && op && one && also && len(e.Items) == 0
	case api.EName:
		one, items = variable(e.Name), 0
	case api.ETuple, api.EList, api.ESet:
	case api.EUnary:
		op, items = e.Op == "-" || e.Op == "not", 1
	case api.EBin:
		op, items = slices.Contains(operators, e.Op), 2
	case api.EIf:
		items = 3
	case api.ELet:
		one, items = variable(e.Name), 2
	case api.EFold:
		one, also, items = variable(e.Name), variable(e.Also), 3
	case api.ECall:
		op = text.Name(e.Op) == api.OK && !slices.Contains(neverCalled, e.Op)
	case api.EField:
		op = op && value.Check(e.Value) == api.OK && e.Value.Kind == api.KInt && e.Value.Int >= 0
		items = 1
	default:
		return false
	}
	for _, x := range e.Items {
		one = one && hasText(x)
	}
	return op && one && also && (items < 0 || items == len(e.Items))
}

// spoil changes one thing of an expression by chance, or of one that lies in it.
func spoil(rnd *rand.Rand, e *api.Expr) {
	for len(e.Items) > 0 && rnd.Intn(3) > 0 {
		e = &e.Items[rnd.Intn(len(e.Items))]
	}
	words := []string{"", "x", "if", "not", "or", "-", "+", "1", "x y", "#x", "(", "x.0", "a + b", "//", "with", "false", "é", "\xff", strings.Repeat("n", 32), strings.Repeat("n", 33)}
	switch rnd.Intn(8) {
	case 0:
		e.Kind = api.ExprKind(rnd.Intn(15) - 1)
	case 1:
		e.Name = pick(rnd, words)
	case 2:
		e.Also = pick(rnd, words)
	case 3:
		e.Op = pick(rnd, words)
	case 4:
		e.Value = pick(rnd, []api.Value{{}, integer(least), integer(-1), integer(7), boolean(1), boolean(2), sym("b"), sym("true"), sym("b c"), sym(""), gauss(0, 1), rowOf(api.KTuple), rowOf(api.KList), rowOf(api.KSet), {Kind: api.KInt, Im: 1}, {Kind: api.KInt, Text: "x"}, {Kind: 9}})
	case 5:
		e.Items = slices.Concat(e.Items, []api.Expr{anyAtom(rnd)})
	case 6:
		if len(e.Items) > 0 {
			e.Items = e.Items[1:]
		}
	case 7:
		e.At = api.Spot{Off: 3, Line: -1, Col: 9}
	}
}

// spelt, speltSort, speltValue and speltSpec answer texts, and fail if a call changes what it is handed, or answers something beside an error.
func spelt(t testing.TB, e api.Expr) (string, api.Errno) {
	t.Helper()
	return held(t, e, spell.Expr)
}

func speltSort(t testing.TB, s api.Sort) (string, api.Errno) {
	t.Helper()
	return held(t, s, spell.Sort)
}

func speltValue(t testing.TB, v api.Value) (string, api.Errno) {
	t.Helper()
	return held(t, v, spell.Value)
}

func speltSpec(t testing.TB, s api.Spec) (string, api.Errno) {
	t.Helper()
	return held(t, s, spell.Spec)
}

func held[T any](t testing.TB, x T, write func(T) (string, api.Errno)) (string, api.Errno) {
	t.Helper()
	before := fmt.Sprintf("%+v", x)
	s, e := write(x)
	if e != api.OK && (e != api.ErrSpell || s != "") {
		t.Fatalf("of %+v: %q, %d", x, s, e)
	}
	if again, f := write(x); again != s || f != e || fmt.Sprintf("%+v", x) != before {
		t.Fatalf("%s was changed, or has another text: %q", before, again)
	}
	return s, e
}

// exprOf and specOf read what is known to be right.
func exprOf(t testing.TB, s string) api.Expr {
	t.Helper()
	e, f := syntax.Expr(s)
	if f != (api.Fault{}) {
		t.Fatalf("Expr(%q): %+v", s, f)
	}
	return e
}

func specOf(t testing.TB, s string) api.Spec {
	t.Helper()
	x, f := syntax.Parse(s)
	if f != (api.Fault{}) {
		t.Fatalf("Parse(%q): %+v", s, f)
	}
	return x
}
