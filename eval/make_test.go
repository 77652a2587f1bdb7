package eval_test

import (
	"fmt"
	"iter"
	"math/rand"
	"reflect"
	"slices"
	"testing"

	"sextant/api"
	"sextant/eval"
	"sextant/syntax"
	"sextant/value"
)

const most = 1<<63 - 1

func integer(n int64) api.Value { return api.Value{Kind: api.KInt, Int: n} }

func rowOf(kind api.Kind, items ...api.Value) api.Value { return api.Value{Kind: kind, Items: items} }

func lit(v api.Value) api.Expr { return api.Expr{Kind: api.ELit, Value: v} }

func number(n int64) api.Expr { return lit(integer(n)) }

func name(s string) api.Expr { return api.Expr{Kind: api.EName, Name: s} }

func of(kind api.ExprKind, items ...api.Expr) api.Expr { return api.Expr{Kind: kind, Items: items} }

func unary(op string, x api.Expr) api.Expr {
	return api.Expr{Kind: api.EUnary, Op: op, Items: []api.Expr{x}}
}

func pair(x api.Expr, op string, y api.Expr) api.Expr {
	return api.Expr{Kind: api.EBin, Op: op, Items: []api.Expr{x, y}}
}

func let(n string, x, y api.Expr) api.Expr {
	return api.Expr{Kind: api.ELet, Name: n, Items: []api.Expr{x, y}}
}

func fold(n, m string, x, y, z api.Expr) api.Expr {
	return api.Expr{Kind: api.EFold, Name: n, Also: m, Items: []api.Expr{x, y, z}}
}

func call(op string, items ...api.Expr) api.Expr {
	return api.Expr{Kind: api.ECall, Op: op, Items: items}
}

func field(x api.Expr, n int64) api.Expr {
	return api.Expr{Kind: api.EField, Value: integer(n), Items: []api.Expr{x}}
}

// work answers an expression that begins just so many, none of which ends in an error.
func work(n int) api.Expr {
	e := number(1)
	for range n - 1 {
		e = unary("-", e)
	}
	return e
}

// loops makes an expression each of whose items is it itself.
func loops(e api.Expr) api.Expr {
	for i := range e.Items {
		e.Items[i] = e
	}
	return e
}

func parsed(t testing.TB, s string) api.Expr {
	t.Helper()
	e, f := syntax.Expr(s)
	if f != (api.Fault{}) {
		t.Fatalf("%q: %+v", s, f)
	}
	return e
}

// valueOf reads a value's text.
func valueOf(t testing.TB, s string) api.Value {
	t.Helper()
	v, f := value.Parse(s)
	if f != (api.Fault{}) {
		t.Fatalf("%q: %+v", s, f)
	}
	return v
}

// scope is what names mean.
type scope struct {
	names  []string
	values []api.Value
}

// means reads what names mean: a name, its value's text, and so on.
func means(t testing.TB, l ...string) scope {
	t.Helper()
	var s scope
	for i := 0; i < len(l); i += 2 {
		s = s.with(l[i], valueOf(t, l[i+1]))
	}
	return s
}

func (s scope) with(name string, v api.Value) scope {
	return scope{append(slices.Clone(s.names), name), append(slices.Clone(s.values), v)}
}

// evaluated answers what Eval does, and fails if the call changes what it is handed, answers something beside an error, or answers memory that is not new, or a value that is not right.
func evaluated(t testing.TB, e api.Expr, s scope) (api.Value, api.Errno) {
	t.Helper()
	before := fmt.Sprintf("%+v %+v", e, s)
	v, errno := eval.Eval(e, s.names, s.values)
	if errno != api.OK && !reflect.ValueOf(v).IsZero() {
		t.Fatalf("%+v beside %d", v, errno)
	}
	if errno == api.OK && value.Check(v) != api.OK {
		t.Fatalf("not right: %+v", v)
	}
	fresh(t, v, e, s)
	if after := fmt.Sprintf("%+v %+v", e, s); after != before {
		t.Fatalf("%s has become %s", before, after)
	}
	return v, errno
}

// told writes what Eval answers: a value's text, or the number of an error.
func told(t testing.TB, e api.Expr, s scope) string {
	t.Helper()
	return spoken(t)(evaluated(t, e, s))
}

func spoken(t testing.TB) func(api.Value, api.Errno) string {
	return func(v api.Value, errno api.Errno) string {
		switch errno {
		case api.OK:
			s, errno := value.Print(v)
			if errno != api.OK {
				t.Fatalf("%+v: %d", v, errno)
			}
			return s
		case api.ErrArg:
			return "arg"
		case api.ErrName:
			return "name"
		case api.ErrSort:
			return "sort"
		case api.ErrStuck:
			return "stuck"
		}
		t.Fatalf("error %d", errno)
		return ""
	}
}

// fresh fails if two lists of an answer are one, or one is of what was handed in.
func fresh(t testing.TB, answer api.Value, e api.Expr, s scope) {
	t.Helper()
	if len(answer.Items) == 0 {
		return
	}
	seen := map[*api.Value]bool{}
	see := func(v api.Value) {
		for l := range listsWithin(v) {
			seen[&l[0]] = true
		}
	}
	for _, v := range s.values {
		see(v)
	}
	for part := range syntax.Walk(e) {
		see(part.Value)
	}
	for l := range listsWithin(answer) {
		if seen[&l[0]] {
			t.Fatalf("a list that is another's: %+v", answer)
		}
		seen[&l[0]] = true
	}
}

func listsWithin(v api.Value) iter.Seq[[]api.Value] {
	return func(yield func([]api.Value) bool) {
		var down func(v api.Value) bool
		down = func(v api.Value) bool {
			if len(v.Items) > 0 && !yield(v.Items) {
				return false
			}
			return !slices.ContainsFunc(v.Items, func(item api.Value) bool { return !down(item) })
		}
		down(v)
	}
}

func pick[T any](rnd *rand.Rand, l []T) T { return l[rnd.Intn(len(l))] }
