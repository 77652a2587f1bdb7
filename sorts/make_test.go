package sorts_test

import (
	"fmt"
	"iter"
	"math/rand"
	"reflect"
	"slices"
	"strings"
	"testing"

	"sextant/api"
	"sextant/sorts"
	"sextant/value"
)

const most = 1<<63 - 1

func lit(v api.Value) api.Expr     { return api.Expr{Kind: api.ELit, Value: v} }
func number(n int64) api.Expr      { return lit(integer(n)) }
func integer(n int64) api.Value    { return api.Value{Kind: api.KInt, Int: n} }
func sym(s string) api.Value       { return api.Value{Kind: api.KSym, Text: s} }
func boolean(n int64) api.Value    { return api.Value{Kind: api.KBool, Int: n} }
func gauss(re, im int64) api.Value { return api.Value{Kind: api.KGauss, Int: re, Im: im} }
func name(s string) api.Expr       { return api.Expr{Kind: api.EName, Name: s} }

func rowOf(kind api.Kind, items ...api.Value) api.Value { return api.Value{Kind: kind, Items: items} }

func of(kind api.ExprKind, items ...api.Expr) api.Expr { return api.Expr{Kind: kind, Items: items} }

func call(op string, items ...api.Expr) api.Expr {
	return api.Expr{Kind: api.ECall, Op: op, Items: items}
}

func unary(op string, x api.Expr) api.Expr {
	return api.Expr{Kind: api.EUnary, Op: op, Items: []api.Expr{x}}
}

func pair(x api.Expr, op string, y api.Expr) api.Expr {
	return api.Expr{Kind: api.EBin, Op: op, Items: []api.Expr{x, y}}
}

func field(x api.Expr, n int64) api.Expr {
	return api.Expr{Kind: api.EField, Value: integer(n), Items: []api.Expr{x}}
}

func let(n string, x, y api.Expr) api.Expr {
	return api.Expr{Kind: api.ELet, Name: n, Items: []api.Expr{x, y}}
}

func fold(n, m string, x, y, z api.Expr) api.Expr {
	return api.Expr{Kind: api.EFold, Name: n, Also: m, Items: []api.Expr{x, y, z}}
}

func sortOf(kind api.SortKind, items ...api.Sort) api.Sort { return api.Sort{Kind: kind, Items: items} }

func tupleOf(items ...api.Sort) api.Sort { return sortOf(api.STuple, items...) }
func listOf(item api.Sort) api.Sort      { return sortOf(api.SList, item) }
func setOf(item api.Sort) api.Sort       { return sortOf(api.SSet, item) }

// nested answers a sort within so many lists.
func nested(lists int, s api.Sort) api.Sort {
	for range lists {
		s = listOf(s)
	}
	return s
}

// wide answers a tuple of so many like items.
func wide(items int, s api.Sort) api.Sort { return tupleOf(slices.Repeat([]api.Sort{s}, items)...) }

var spaced = strings.NewReplacer("(", " ( ", ")", " ) ", ",", " , ")

// so reads a sort as it is written in the language, and ? as SNone.
func so(s string) api.Sort {
	words := strings.Fields(spaced.Replace(s))
	got := soWords(&words)
	if len(words) > 0 {
		panic("no sort: " + s)
	}
	return got
}

func soWords(words *[]string) api.Sort {
	w := (*words)[0]
	*words = (*words)[1:]
	switch w {
	case "?", "int", "bool", "symbol", "gauss":
		return sortOf(api.SortKind(slices.Index([]string{"?", "int", "bool", "symbol", "gauss"}, w)))
	case "list", "set":
		item := soWords(words)
		return sortOf(api.SortKind(6+slices.Index([]string{"list", "set"}, w)), item)
	case "(":
		t := tupleOf()
		for (*words)[0] != ")" {
			t.Items = append(t.Items, soWords(words))
			if (*words)[0] == "," {
				*words = (*words)[1:]
			}
		}
		*words = (*words)[1:]
		return t
	}
	panic("no sort: " + w)
}

func soAll(l ...string) []api.Sort {
	var all []api.Sort
	for _, s := range l {
		all = append(all, so(s))
	}
	return all
}

// show writes a sort, and whatever else there may be instead.
func show(s api.Sort) string {
	var items []string
	for _, item := range s.Items {
		items = append(items, show(item))
	}
	return fmt.Sprint(int(s.Kind), items)
}

// parsed reads what is known to be right.
func parsed[T any](t testing.TB, read func(string) (T, api.Fault), s string) T {
	t.Helper()
	x, f := read(s)
	if f != (api.Fault{}) {
		t.Fatalf("%q: %+v", s, f)
	}
	return x
}

// marked takes the mark @ out of a text, and answers where it stands.
func marked(s string) (string, int) {
	ahead, behind, _ := strings.Cut(s, "@")
	return ahead + behind, len(ahead)
}

// sorted answers the sort of an expression, and fails if the call changes what it is handed, answers something beside a fault, or answers memory that is not new.
func sorted(t testing.TB, e api.Expr, names []string, given []api.Sort) (api.Sort, api.Fault) {
	t.Helper()
	before := fmt.Sprintf("%+v %q %+v", e, names, given)
	s, f := sorts.Expr(e, names, given)
	if f != (api.Fault{}) && !reflect.ValueOf(s).IsZero() {
		t.Fatalf("%+v beside %+v", s, f)
	}
	fresh(t, s, given...)
	if after := fmt.Sprintf("%+v %q %+v", e, names, given); after != before {
		t.Fatalf("%s has become %s", before, after)
	}
	return s, f
}

// fresh fails if two lists of an answer are one, or one is of what was handed in.
func fresh(t testing.TB, answer api.Sort, given ...api.Sort) {
	t.Helper()
	seen := map[*api.Sort]bool{}
	for _, s := range given {
		for l := range listsWithin(s) {
			seen[&l[0]] = true
		}
	}
	for l := range listsWithin(answer) {
		if seen[&l[0]] {
			t.Fatal("a list that is another's:", show(answer))
		}
		seen[&l[0]] = true
	}
}

func listsWithin(s api.Sort) iter.Seq[[]api.Sort] {
	return func(yield func([]api.Sort) bool) {
		var down func(s api.Sort) bool
		down = func(s api.Sort) bool {
			if len(s.Items) > 0 && !yield(s.Items) {
				return false
			}
			for _, item := range s.Items {
				if !down(item) {
					return false
				}
			}
			return true
		}
		down(s)
	}
}

// place gives every expression within an expression a spot of its own.
func place(e *api.Expr, next *int) {
	*next++
	e.At = api.Spot{Off: *next, Line: 1, Col: *next + 1}
	for i := range e.Items {
		place(&e.Items[i], next)
	}
}

func pick[T any](rnd *rand.Rand, l []T) T { return l[rnd.Intn(len(l))] }

func many[T any](rnd *rand.Rand, least, most int, one func() T) []T {
	var l []T
	for range least + rnd.Intn(most-least+1) {
		l = append(l, one())
	}
	return l
}

// anySort answers a sort by chance, of at most so many levels below the first one; least is the least kind that its parts may have.
func anySort(rnd *rand.Rand, least api.SortKind, deep int) api.Sort {
	kind := least + api.SortKind(rnd.Intn(8-int(least)))
	if deep == 0 && kind >= api.STuple {
		kind -= 3
	}
	item := func() api.Sort { return anySort(rnd, least, deep-1) }
	switch kind {
	case api.STuple:
		return tupleOf(many(rnd, 0, 3, item)...)
	case api.SList, api.SSet:
		return sortOf(kind, item())
	}
	return sortOf(kind)
}

// anyOf answers a right value of a sort that has one.
func anyOf(rnd *rand.Rand, s api.Sort) api.Value {
	item := func() api.Value { return anyOf(rnd, s.Items[0]) }
	count := 3
	if (s.Kind == api.SList || s.Kind == api.SSet) && !hasValue(s.Items[0]) {
		count = 0
	}
	switch s.Kind {
	case api.SInt:
		return integer(pick(rnd, []int64{0, 1, 2, 3, -1, 7, most}))
	case api.SBool:
		return boolean(int64(rnd.Intn(2)))
	case api.SSym:
		return sym(pick(rnd, []string{"a", "b", "enq"}))
	case api.SGauss:
		return gauss(int64(rnd.Intn(5)-2), int64(rnd.Intn(5)-2))
	case api.STuple:
		v := rowOf(api.KTuple)
		for _, x := range s.Items {
			v.Items = append(v.Items, anyOf(rnd, x))
		}
		return v
	case api.SList:
		return rowOf(api.KList, many(rnd, 0, count, item)...)
	case api.SSet:
		v, _ := value.Set(many(rnd, 0, count, item)...)
		return v
	}
	panic("no value is of it: " + show(s))
}

func hasNone(s api.Sort) bool {
	return s.Kind == api.SNone || slices.ContainsFunc(s.Items, hasNone)
}

// anyValue answers a right value by chance, of at most so many levels below the first one.
func anyValue(rnd *rand.Rand, deep int) api.Value {
	kind := api.Kind(1 + rnd.Intn(7))
	if deep == 0 && kind >= api.KTuple {
		kind -= 3
	}
	item := func() api.Value { return anyValue(rnd, deep-1) }
	switch kind {
	case api.KTuple, api.KList:
		return rowOf(kind, many(rnd, 0, 3, item)...)
	case api.KSet:
		v, _ := value.Set(many(rnd, 0, 3, item)...)
		return v
	}
	return anyOf(rnd, sortOf([]api.SortKind{0, api.SBool, api.SInt, api.SGauss, api.SSym}[kind]))
}

// hasValue tells whether a value is of a sort.
func hasValue(s api.Sort) bool {
	return s.Kind != api.SNone && (s.Kind != api.STuple || !slices.ContainsFunc(s.Items, func(item api.Sort) bool { return !hasValue(item) }))
}
