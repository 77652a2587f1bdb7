package eval_test

import (
	"math/rand"
	"slices"
	"strings"
	"testing"

	"sextant/api"
	"sextant/arith"
	"sextant/eval"
	"sextant/sorts"
	"sextant/syntax"
	"sextant/text"
	"sextant/value"
)

// modelFormed tells whether an expression is formed, as the chapter says it.
func modelFormed(e api.Expr) bool {
	for _, item := range e.Items {
		if !modelFormed(item) {
			return false
		}
	}
	isName := func(s string) bool { return text.Name(s) == api.OK }
	switch n := len(e.Items); e.Kind {
	case api.ELit:
		return n == 0 && value.Check(e.Value) == api.OK
	case api.EName:
		return n == 0 && isName(e.Name)
	case api.EUnary:
		return n == 1 && slices.Contains([]string{"-", "not"}, e.Op)
	case api.EBin:
		return n == 2 && slices.Contains(strings.Fields(operators), e.Op)
	case api.EIf:
		return n == 3
	case api.ELet:
		return n == 2 && isName(e.Name)
	case api.EFold:
		return n == 3 && isName(e.Name) && isName(e.Also)
	case api.EField:
		return n == 1 && e.Value.Int >= 0
	}
	return e.Kind == api.ETuple || e.Kind == api.EList || e.Kind == api.ESet || e.Kind == api.ECall
}

// modelFree answers the names that are free in an expression, from the inmost ones on.
func modelFree(e api.Expr) map[string]bool {
	free := map[string]bool{}
	if e.Kind == api.EName {
		free[e.Name] = true
	}
	for i, item := range e.Items {
		for name := range modelFree(item) {
			bound := e.Kind == api.ELet && i == 1 && name == e.Name || e.Kind == api.EFold && i == 2 && (name == e.Name || name == e.Also)
			if !bound {
				free[name] = true
			}
		}
	}
	return free
}

// put answers an expression with a value in all places where a name is free.
func put(e api.Expr, name string, v api.Value) api.Expr {
	if e.Kind == api.EName && e.Name == name {
		return lit(v)
	}
	items := slices.Clone(e.Items)
	for i := range items {
		if e.Kind == api.ELet && i == 1 && e.Name == name || e.Kind == api.EFold && i == 2 && (e.Name == name || e.Also == name) {
			continue
		}
		items[i] = put(items[i], name, v)
	}
	e.Items = items
	return e
}

// model works expressions out by putting values in the places of names; an error is thrown.
type model struct{ begun int }

func modelEval(e api.Expr, s scope) (v api.Value, errno api.Errno) {
	if !modelFormed(e) || len(s.names) != len(s.values) {
		return v, api.ErrArg
	}
	for _, v := range s.values {
		if value.Check(v) != api.OK {
			return api.Value{}, api.ErrArg
		}
	}
	defer func() {
		if thrown := recover(); thrown != nil {
			v, errno = api.Value{}, thrown.(api.Errno)
		}
	}()
	for i, name := range slices.Backward(s.names) {
		e = put(e, name, s.values[i])
	}
	return new(model).eval(e), api.OK
}

func orThrow(v api.Value, errno api.Errno) api.Value {
	if errno != api.OK {
		panic(errno)
	}
	return v
}

func (m *model) eval(e api.Expr) api.Value {
	if m.begun++; m.begun > 20000 {
		panic(api.ErrStuck)
	}
	switch e.Kind {
	case api.ELit:
		return e.Value
	case api.EName:
		panic(api.ErrName)
	case api.EIf:
		if m.truth(e.Items[0]).Int == 1 {
			return m.eval(e.Items[1])
		}
		return m.eval(e.Items[2])
	case api.ELet:
		v := m.eval(e.Items[0])
		return m.eval(put(e.Items[1], e.Name, v))
	case api.EFold:
		over := m.eval(e.Items[0])
		if over.Kind != api.KList && over.Kind != api.KSet {
			panic(api.ErrSort)
		}
		soFar := m.eval(e.Items[1])
		for _, item := range over.Items {
			soFar = m.eval(put(put(e.Items[2], e.Also, soFar), e.Name, item))
		}
		return soFar
	}
	if decides, ok := map[string]int64{"and": 0, "or": 1}[e.Op]; ok && e.Kind == api.EBin {
		v := m.truth(e.Items[0])
		if v.Int == decides {
			return v
		}
		return m.truth(e.Items[1])
	}
	var items []api.Value
	for _, item := range e.Items {
		items = append(items, m.eval(item))
	}
	return ofItems(e, items)
}

func (m *model) truth(e api.Expr) api.Value {
	v := m.eval(e)
	if v.Kind != api.KBool {
		panic(api.ErrSort)
	}
	return v
}

func ofItems(e api.Expr, items []api.Value) api.Value {
	gather := value.Tuple
	switch e.Kind {
	case api.EUnary:
		return orThrow(arith.Unary(e.Op, items[0]))
	case api.EBin:
		return orThrow(arith.Binary(e.Op, items[0], items[1]))
	case api.ECall:
		return orThrow(arith.Call(e.Op, items))
	case api.EField:
		return orThrow(arith.Field(items[0], int(e.Value.Int)))
	case api.EList:
		gather = value.List
	case api.ESet:
		gather = value.Set
	}
	v, errno := gather(items...)
	if errno != api.OK {
		panic(api.ErrStuck)
	}
	return v
}

// gen makes texts of expressions by chance.
type gen struct{ rnd *rand.Rand }

// The forms of expressions of integers (I), truths (B), Gaussian integers (G), symbols (Y), tuples of an integer and a truth (T), lists and sets of integers (L, S), and of anything (A); N is a name.
var forms = map[rune]string{
	'I': "0;1;2;7;x;I + I;I - I;I * I;I / I;I % I;-I;size(L);size(S);head(L);last(L);at(L, I);min(S);max(L);re(G);im(G);norm(G);T.0;if B then I else I;let N = A do I;fold N, N over L from I with I;fold N, N over S from I with N + I",
	'B': "true;false;b;not B;B and B;B or B;I < I;A == A;L <= L;Y != Y;I in L;I in S;A in S;T.1;if B then B else B;let N = A do B;fold N, N over L from B with B",
	'G': "z;gauss(I, I);G + G;G - G;G * G;-G;conj(G);turn(G);if B then G else G;let N = G do N",
	'Y': "#a;#b;k;if B then Y else Y",
	'T': "t;(I, B);(I, B);if B then T else T;let N = A do T;head([T])",
	'L': "l;[];[I];[I, I, I];L + L;tail(L);push(L, I);put(L, I, I);list(S);range(I, I);if B then L else L;let N = A do L;fold N, N over S from L with push(N, N);fold N, N over L from L with L",
	'S': "s;{};{I};{I, I, I};S | S;S & S;S \\ S;with(S, I);without(S, I);set(L);max(subsets(S));if B then S else S;let N = A do S;fold N, N over L from S with S",
	'A': "I;I;B;G;Y;T;L;S;[A];{A, A};(A,);(A, A, A);();f(A);y;A.0",
}

const names = "xblstzkyia"

// text answers a form's text of at most so many levels.
func (g gen) text(form rune, deep int) string {
	ways := strings.Split(forms[form], ";")
	if deep == 0 {
		ways = slices.DeleteFunc(ways, func(s string) bool { return strings.ContainsAny(s, "IBGYTLSAN") })
		ways = append(ways, "x")
	}
	if g.rnd.Intn(60) == 0 {
		return g.text(pick(g.rnd, []rune("IBGYTLSA")), deep)
	}
	var b strings.Builder
	for _, r := range pick(g.rnd, ways) {
		switch {
		case r == 'N':
			b.WriteByte(names[g.rnd.Intn(len(names))])
		case forms[r] != "":
			b.WriteString("(" + g.text(r, deep-1) + ")")
		default:
			b.WriteRune(r)
		}
	}
	return b.String()
}

func (g gen) expr(t testing.TB, deep int) api.Expr {
	return parsed(t, g.text(pick(g.rnd, []rune("IIBGTLSA")), deep))
}

// scope answers what names mean: mostly each what its place in the forms asks for, some of them twice, some not at all.
func (g gen) scope(t testing.TB) scope {
	var s scope
	for _, row := range []string{"x 0 3 -1", "b true false", "l [] [1] [3,1,2]", "s {} {2} {0,1,5}", "t (1,true) (7,false)", "z 3-4i 0+1i", "k a b", "y 1 [] (2,3)"} {
		words := strings.Fields(row)
		for range pick(g.rnd, []int{0, 1, 1, 1, 1, 1, 2}) {
			s = s.with(words[0], valueOf(t, pick(g.rnd, words[1:])))
		}
	}
	g.rnd.Shuffle(len(s.names), func(i, j int) {
		s.names[i], s.names[j] = s.names[j], s.names[i]
		s.values[i], s.values[j] = s.values[j], s.values[i]
	})
	return s
}

// spoil changes one thing of an expression, or of one that lies in it.
func (g gen) spoil(e *api.Expr) {
	for len(e.Items) > 0 && g.rnd.Intn(4) > 0 {
		e = &e.Items[g.rnd.Intn(len(e.Items))]
	}
	switch g.rnd.Intn(6) {
	case 0:
		e.Kind = api.ExprKind(g.rnd.Intn(15) - 1)
	case 1:
		e.Name = pick(g.rnd, []string{"", "x", "1", "y"})
	case 2:
		e.Op = pick(g.rnd, []string{"", "-", "not", "and", "or", "+", "size", "head"})
	case 3:
		e.Value = pick(g.rnd, []api.Value{{}, integer(-1), integer(1), {Kind: api.KBool, Int: 2}, rowOf(api.KTuple, integer(0))})
	case 4:
		e.Items = slices.Concat(e.Items, []api.Expr{name("x")})
	case 5:
		if len(e.Items) > 0 {
			e.Items = e.Items[1:]
		}
	}
}

// TestModel holds Formed, Eval and Free against the model.
func TestModel(t *testing.T) {
	g := gen{rand.New(rand.NewSource(13))}
	count := map[string]int{}
	for i := range 30000 {
		e, s := g.expr(t, 1+g.rnd.Intn(5)), g.scope(t)
		if i%4 == 0 {
			g.spoil(&e)
		}
		if eval.Formed(e) != modelFormed(e) {
			t.Fatalf("formed: %v: %+v", !modelFormed(e), e)
		}
		say := spoken(t)
		got, want := told(t, e, s), say(modelEval(e, s))
		if got != want {
			t.Fatalf("%s, not %s: %+v with %+v", got, want, e, s)
		}
		count[want]++
		free := eval.Free(e)
		expected := modelFree(e)
		if !slices.IsSorted(free) || len(free) != len(expected) || slices.ContainsFunc(free, func(n string) bool { return !expected[n] }) {
			t.Fatalf("free: %q, not %v: %+v", free, expected, e)
		}
	}
	for _, word := range []string{"arg", "name", "sort", "stuck"} {
		if count[word] < 300 {
			t.Errorf("%s: %d only", word, count[word])
		}
	}
	if len(count) < 200 {
		t.Error("too few kinds of answers:", len(count))
	}
}

// TestFollowsFree: what is not free turns nothing, and where all that is free means something no name is missed.
func TestFollowsFree(t *testing.T) {
	g := gen{rand.New(rand.NewSource(131))}
	for range 8000 {
		e, s := g.expr(t, 1+g.rnd.Intn(5)), g.scope(t)
		free := eval.Free(e)
		var kept, other scope
		missing := false
		for _, n := range free {
			at := len(s.names) - 1
			for at >= 0 && s.names[at] != n {
				at--
			}
			if at < 0 {
				missing = true
				continue
			}
			kept = kept.with(n, s.values[at])
			other = other.with(n, s.values[at])
		}
		for _, n := range strings.Split(names, "") {
			if !slices.Contains(free, n) {
				other = other.with(n, rowOf(api.KList))
			}
		}
		want := told(t, e, s)
		if got := told(t, e, kept); got != want {
			t.Fatalf("%s, with what is free alone %s: %+v", want, got, e)
		}
		if got := told(t, e, other); got != want {
			t.Fatalf("%s, with all else %s: %+v", want, got, e)
		}
		if !missing && want == "name" {
			t.Fatalf("no name is missing: %+v", e)
		}
	}
}

// TestFollowsSorts: what has a sort has a value of it, or is stuck.
func TestFollowsSorts(t *testing.T) {
	g := gen{rand.New(rand.NewSource(132))}
	with, stuck := 0, 0
	for range 20000 {
		e, s := g.expr(t, 1+g.rnd.Intn(5)), g.scope(t)
		var of []api.Sort
		for _, v := range s.values {
			k, _ := sorts.Of(v)
			of = append(of, k)
		}
		k, f := sorts.Expr(e, s.names, of)
		if f.Code != api.OK {
			continue
		}
		with++
		v, errno := evaluated(t, e, s)
		if errno == api.ErrStuck {
			stuck++
		} else if errno != api.OK || !sorts.Fits(k, v) {
			t.Fatalf("%+v: %+v, %d: %+v", k, v, errno, e)
		}
	}
	if with < 4000 || stuck < 300 || with-stuck < 3000 {
		t.Error("too few:", with, stuck)
	}
}

// TestFollowsLet: a let has the value that its second item has where the name means the first one's.
func TestFollowsLet(t *testing.T) {
	g := gen{rand.New(rand.NewSource(133))}
	ok := 0
	for range 8000 {
		a, b, s := g.expr(t, g.rnd.Intn(4)), g.expr(t, 1+g.rnd.Intn(4)), g.scope(t)
		n := string(names[g.rnd.Intn(len(names))])
		got := told(t, let(n, a, b), s)
		v, errno := evaluated(t, a, s)
		want := spoken(t)(v, errno)
		if errno == api.OK {
			want = told(t, b, s.with(n, v))
			ok++
		}
		if got != want {
			t.Fatalf("%s, not %s: let %s = %+v do %+v with %+v", got, want, n, a, b, s)
		}
	}
	if ok < 3000 {
		t.Error("too few:", ok)
	}
}

// TestFollowsText: what spots stand at an expression turns nothing.
func TestFollowsText(t *testing.T) {
	g := gen{rand.New(rand.NewSource(134))}
	for range 2000 {
		e, s := g.expr(t, 4), g.scope(t)
		bare := unplaced(e)
		if !syntax.SameExpr(e, bare) {
			t.Fatal("spots count")
		}
		if got, want := told(t, bare, s), told(t, e, s); got != want {
			t.Fatalf("%s, not %s: %+v", got, want, e)
		}
	}
}

func unplaced(e api.Expr) api.Expr {
	e.At = api.Spot{}
	e.Items = slices.Clone(e.Items)
	for i := range e.Items {
		e.Items[i] = unplaced(e.Items[i])
	}
	return e
}
