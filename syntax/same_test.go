package syntax_test

import (
	"fmt"
	"math/rand"
	"slices"
	"strings"
	"testing"

	"sextant/api"
	"sextant/syntax"
)

// P10.4

func TestSameExprOfPairs(t *testing.T) {
	texts := []string{
		"1", "2", "-1", "x", "y", "#x", "#y", "true", "false", "()", "[]", "{}", "f()", "g()", "(1,)", "[1]", "{1}", "f(1)", "f(x)", "f(1, 1)", "[1, 1]", "[1, 2]", "[2, 1]", "[[1], 2]", "[[1, 2]]", "[1, [2]]", "[[], []]", "[[[]]]",
		"x.0", "x.1", "y.0", "-x", "not x", "x + y", "x - y", "y + x", "x and y", "x in y", "x == y", "x + y + x", "x + (y + x)", "if x then y else 1", "if y then x else 1", "let x = 1 do x", "let y = 1 do x", "let x = x do 1",
		"fold a, b over x from 1 with y", "fold b, a over x from 1 with y", "fold a, c over x from 1 with y", "fold c, b over x from 1 with y", "fold a, b over x from y with 1", "-1.0", "(-x).0", "-(1)",
	}
	for i, a := range texts {
		for j, b := range texts {
			if got := syntax.SameExpr(exprOf(t, a), exprOf(t, " ( \n"+b+" )")); got != (i == j) {
				t.Errorf("SameExpr(%q, %q) = %v", a, b, got)
			}
		}
	}
}

func TestSameExprLooksAtWhatCounts(t *testing.T) {
	one := api.Value{Kind: api.KInt, Int: 1}
	wrong := api.Value{Kind: api.KInt, Int: 1, Text: "x"}
	for kind := api.ExprKind(-1); kind < 14; kind++ {
		valued := kind == api.ELit || kind == api.EField
		e := api.Expr{Kind: kind, Value: one, Name: "n", Also: "a", Op: "o", Items: []api.Expr{integer(1)}}
		same := func(want bool, change func(x *api.Expr)) {
			t.Helper()
			x := e
			x.Items = slices.Clone(e.Items)
			change(&x)
			if syntax.SameExpr(e, x) != want || syntax.SameExpr(x, e) != want {
				t.Errorf("SameExpr(%+v, %+v) is not %v", e, x, want)
			}
		}
		same(true, func(x *api.Expr) {})
		same(true, func(x *api.Expr) { x.At = api.Spot{Off: 1, Line: 2, Col: 3} })
		same(true, func(x *api.Expr) { x.Items[0].At.Off = 9 })
		same(false, func(x *api.Expr) { x.Kind++ })
		same(false, func(x *api.Expr) { x.Name = "" })
		same(false, func(x *api.Expr) { x.Also = "n" })
		same(false, func(x *api.Expr) { x.Op = "" })
		same(false, func(x *api.Expr) { x.Items = nil })
		same(false, func(x *api.Expr) { x.Items = append(x.Items, integer(1)) })
		same(false, func(x *api.Expr) { x.Items[0].Value.Int = 2 })
		same(false, func(x *api.Expr) { x.Items[0].Items = []api.Expr{integer(1)} })
		same(!valued, func(x *api.Expr) { x.Value.Int = 2 })
		same(!valued, func(x *api.Expr) { x.Value = api.Value{} })
		same(!valued, func(x *api.Expr) { x.Value = wrong })
		e.Value = wrong
		same(!valued, func(x *api.Expr) {}) // alike, but not right
		e.Value, e.Items = one, nil
		same(true, func(x *api.Expr) { x.Items = []api.Expr{} })
		same(false, func(x *api.Expr) { x.Items = []api.Expr{{}} })
	}
	if !syntax.SameExpr(api.Expr{}, api.Expr{}) {
		t.Error("two zero expressions")
	}
}

func TestSameExprOfValues(t *testing.T) {
	lit := func(v api.Value) api.Expr { return api.Expr{Kind: api.ELit, Value: v} }
	one, two := api.Value{Kind: api.KInt, Int: 1}, api.Value{Kind: api.KInt, Int: 2}
	rows := func(items ...api.Value) api.Value { return api.Value{Kind: api.KSet, Items: items} }
	for _, c := range []struct {
		a, b api.Value
		want bool
	}{
		{rows(one, two), rows(one, two), true}, {rows(one, two), rows(one), false}, {rows(two, one), rows(two, one), false}, {rows(one, one), rows(one, one), false}, {rows(), api.Value{Kind: api.KSet, Items: []api.Value{}}, true},
		{rows(), api.Value{Kind: api.KList}, false}, {api.Value{}, api.Value{}, false}, {one, api.Value{}, false}, {api.Value{}, one, false}, {api.Value{Kind: api.KGauss, Int: 1 << 21}, api.Value{Kind: api.KGauss, Int: 1 << 21}, false},
		{api.Value{Kind: api.KGauss, Int: 1}, api.Value{Kind: api.KGauss, Int: 1, Im: 1}, false}, {api.Value{Kind: api.KBool, Int: 1}, one, false},
	} {
		if got := syntax.SameExpr(lit(c.a), lit(c.b)); got != c.want {
			t.Errorf("of %+v and %+v: %v", c.a, c.b, got)
		}
	}
}

func TestSameSort(t *testing.T) {
	texts := []string{"int", "bool", "symbol", "gauss", "list int", "set int", "list bool", "()", "(int,)", "(int, int)", "(int, bool)", "(bool, int)", "((int,), int)", "((int, int),)", "list list int", "list (int,)"}
	for i, a := range texts {
		for j, b := range texts {
			x, f := syntax.Sort(a)
			y, g := syntax.Sort(" \n" + b)
			if f.Code != api.OK || g.Code != api.OK || syntax.SameSort(x, y) != (i == j) {
				t.Errorf("SameSort(%q, %q) is not %v", a, b, i == j)
			}
		}
	}
	any := api.Sort{Kind: 77, Items: []api.Sort{{Kind: -1}, {}}}
	if !syntax.SameSort(any, any) || !syntax.SameSort(api.Sort{}, api.Sort{Items: []api.Sort{}}) || syntax.SameSort(api.Sort{}, api.Sort{Items: []api.Sort{{}}}) {
		t.Error("sorts that no text has")
	}
}

// changes are each one thing of a specification that counts; of exampleAT each of them is something else.
var changes = map[string]func(s *api.Spec){
	"no automata":      func(s *api.Spec) { s.Autos = nil },
	"an automaton":     func(s *api.Spec) { s.Autos = s.Autos[:3] },
	"their order":      func(s *api.Spec) { s.Autos[0], s.Autos[1] = s.Autos[1], s.Autos[0] },
	"no binds":         func(s *api.Spec) { s.Binds = nil },
	"the binds' order": func(s *api.Spec) { s.Binds[0], s.Binds[1] = s.Binds[1], s.Binds[0] },
	"an object":        func(s *api.Spec) { s.Binds[0].Object = "y" },
	"its automaton":    func(s *api.Spec) { s.Binds[1].Auto = "B" },
	"a name":           func(s *api.Spec) { s.Autos[0].Name = "B" },
	"a mode":           func(s *api.Spec) { s.Autos[0].Mode = api.MSet },
	"a table":          func(s *api.Spec) { s.Autos[3].Table = true },
	"an argument":      func(s *api.Spec) { s.Autos[0].Arg.Kind = api.SBool },
	"a reply":          func(s *api.Spec) { s.Autos[0].Reply.Kind = api.SBool },
	"a state":          func(s *api.Spec) { s.Autos[0].State.Kind = api.SBool },
	"a start":          func(s *api.Spec) { s.Autos[0].Start.Value.Int = 7 },
	"no rules":         func(s *api.Spec) { s.Autos[0].Rules = nil },
	"a rule's name":    func(s *api.Spec) { s.Autos[0].Rules[0].Name = "s" },
	"a guard":          func(s *api.Spec) { s.Autos[0].Rules[0].When.Value.Int = 0 },
	"a give":           func(s *api.Spec) { s.Autos[0].Rules[0].Give.Items = nil },
	"a next":           func(s *api.Spec) { s.Autos[0].Rules[0].Next.Op = "-" },
	"a generator":      func(s *api.Spec) { s.Autos[1].Rules[0].Gens = s.Autos[1].Rules[0].Gens[:1] },
	"its name":         func(s *api.Spec) { s.Autos[1].Rules[0].Gens[0].Name = "z" },
	"its from":         func(s *api.Spec) { s.Autos[1].Rules[0].Gens[1].From.Kind = api.ESet },
	"no rows":          func(s *api.Spec) { s.Autos[2].Rows = nil },
	"a row":            func(s *api.Spec) { s.Autos[2].Rows = s.Autos[2].Rows[1:] },
	"a row's from":     func(s *api.Spec) { s.Autos[2].Rows[0].From.Kind = api.KSet },
	"a row's to":       func(s *api.Spec) { s.Autos[2].Rows[0].To.Items[0].Int = 1 },
	"a row's call":     func(s *api.Spec) { s.Autos[2].Rows[0].Calls = s.Autos[2].Rows[0].Calls[:1] },
	"a call's who":     func(s *api.Spec) { s.Autos[2].Rows[0].Calls[0].Who = "z" },
	"a call's op":      func(s *api.Spec) { s.Autos[2].Rows[0].Calls[1].Op = "z" },
	"a call's arg":     func(s *api.Spec) { s.Autos[2].Rows[0].Calls[0].Arg.Int = 5 },
	"a row's reply":    func(s *api.Spec) { s.Autos[2].Rows[0].Replies = s.Autos[2].Rows[0].Replies[:1] },
	"a reply's who":    func(s *api.Spec) { s.Autos[2].Rows[0].Replies[0].Who = "z" },
	"a reply's value":  func(s *api.Spec) { s.Autos[2].Rows[1].Replies[0].Value.Im = 5 },
	"an unlike arg":    func(s *api.Spec) { s.Autos[2].Rows[0].Calls[0].Arg.Text = "x" },
	"rows of rules":    func(s *api.Spec) { s.Autos[0].Rows = s.Autos[2].Rows },
	"rules of a table": func(s *api.Spec) { s.Autos[2].Rules = s.Autos[0].Rules },
}

func TestSameLooksAtEverything(t *testing.T) {
	for what, change := range changes {
		a, b := specOf(t, exampleAT), specOf(t, exampleAT)
		before := fmt.Sprintf("%+v", a)
		change(&b)
		if syntax.Same(a, b) || syntax.Same(b, a) {
			t.Error(what, "does not count")
		}
		if !syntax.Same(a, a) || fmt.Sprintf("%+v", a) != before {
			t.Error(what, "one is not the same as itself, or was changed")
		}
	}
}

func TestSameLeavesSpotsOut(t *testing.T) {
	a := specOf(t, exampleAT)
	b := specOf(t, "// λ\n "+strings.ReplaceAll(exampleAT, " ", " \n  "))
	if !syntax.Same(a, b) || alike(a, b) {
		t.Error("spots count, or are the same")
	}
	b.Autos[0].Rows, b.Autos[2].Rules = []api.Row{}, []api.Rule{}
	b.Autos[0].Rules[0].Gens = []api.Gen{}
	if !syntax.Same(a, b) || !syntax.Same(api.Spec{}, api.Spec{Autos: []api.Auto{}, Binds: []api.Bind{}}) {
		t.Error("nil and empty lists are not the same")
	}
	c := specOf(t, strings.Replace(exampleAT, "rule r give", "rule r when true give", 1))
	if !syntax.Same(a, c) {
		t.Error("a rule without when is not one when true")
	}
}

// A specification with values that are not right is not even the same as itself.
func TestSameOfValuesThatAreNotRight(t *testing.T) {
	for i, spoil := range []func(r *api.Row){
		func(r *api.Row) { r.From.Kind = 0 }, func(r *api.Row) { r.To.Text = "x" }, func(r *api.Row) { r.Calls[0].Arg.Im = 1 }, func(r *api.Row) { r.Replies[0].Value.Int = 2 },
	} {
		s := specOf(t, exampleAT)
		spoil(&s.Autos[2].Rows[0])
		if syntax.Same(s, s) {
			t.Error(i, "is the same as itself")
		}
	}
	s := specOf(t, exampleAT)
	s.Autos[0].Start.Value.Text = "x"
	if syntax.Same(s, s) {
		t.Error("a start of a literal that is not right is the same")
	}
}

// P10.5

// walked goes down in its own way.
func walked(e api.Expr) []api.Expr {
	l := []api.Expr{e}
	for _, x := range e.Items {
		l = append(l, walked(x)...)
	}
	return l
}

func TestWalk(t *testing.T) {
	rnd := rand.New(rand.NewSource(14))
	for range 300 {
		s := strings.Join(wordsOf(rnd, "expr", 1+rnd.Intn(4)), " ")
		e := exprOf(t, s)
		want := walked(e)
		for range 2 {
			if got := slices.Collect(syntax.Walk(e)); !alike(got, want) {
				t.Fatalf("Walk of %q: %+v, want %+v", s, got, want)
			}
		}
		for stop := range want {
			var got []api.Expr
			for x := range syntax.Walk(e) {
				got = append(got, x)
				if len(got) == stop+1 {
					break
				}
			}
			if !alike(got, want[:stop+1]) {
				t.Fatalf("Walk of %q, left behind %d: %+v", s, stop, got)
			}
		}
	}
}

func TestWalkOrder(t *testing.T) {
	var got []string
	for x := range syntax.Walk(exprOf(t, "if a then [b, (c, d)] else f(-e.0 + g)")) {
		got = append(got, x.Name+x.Op)
	}
	if fmt.Sprint(got) != "[ a  b  c d f + -  e g]" {
		t.Errorf("%q", got)
	}
	n := 0
	for x := range syntax.Walk(api.Expr{}) {
		n++
		if !alike(x, api.Expr{}) {
			t.Error(x)
		}
	}
	if n != 1 {
		t.Error("of a zero expression:", n)
	}
}

// What Walk gives are parts of the expression itself.
func TestWalkGivesNoCopies(t *testing.T) {
	e := exprOf(t, "[[x], y]")
	for x := range syntax.Walk(e) {
		if len(x.Items) == 1 {
			x.Items[0].Name = "z"
		}
	}
	if e.Items[0].Items[0].Name != "z" {
		t.Error("a part is a copy")
	}
}

// R1: trees that no text has, and such as are nested as deep as may be.
func TestSameAndWalkOfAnything(t *testing.T) {
	odd := api.Expr{Kind: -3, Items: []api.Expr{{Kind: 100, Items: []api.Expr{{}}}, {Kind: api.EBin}}}
	if n := len(slices.Collect(syntax.Walk(odd))); n != 4 || !syntax.SameExpr(odd, odd) {
		t.Error(n)
	}
	deep, other, sort := integer(1), integer(2), api.Sort{Kind: api.SInt}
	for range 1<<16 - 2 {
		deep, other = unary("-", deep), unary("-", other)
		sort = api.Sort{Kind: api.SList, Items: []api.Sort{sort}}
	}
	n := 0
	for range syntax.Walk(deep) {
		n++
	}
	if n != 1<<16-1 || !syntax.SameExpr(deep, deep) || syntax.SameExpr(deep, other) || !syntax.SameSort(sort, sort) || syntax.SameSort(sort, sort.Items[0]) || syntax.SameExpr(deep, deep.Items[0]) {
		t.Error("deep ones:", n)
	}
}
