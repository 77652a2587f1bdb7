package spell_test

import (
	"math/rand"
	"strings"
	"testing"
	"time"

	"sextant/api"
	"sextant/spell"
	"sextant/syntax"
)

// P11.1 Expr

func TestExprForms(t *testing.T) {
	a, b, c, x := name("a"), name("b"), name("c"), name("x")
	minus := func(e api.Expr) api.Expr { return unary("-", e) }
	not := func(e api.Expr) api.Expr { return unary("not", e) }
	choice := of(api.EIf, a, b, c)
	for _, k := range []struct {
		e    api.Expr
		want string
	}{
		{pair(pair(a, "or", b), "and", c), "(a or b) and c"}, {pair(a, "-", pair(b, "-", c)), "a - (b - c)"}, {pair(pair(a, "-", b), "-", c), "a - b - c"}, {not(not(a)), "not not a"}, {minus(number(5)), "-(5)"}, {number(-5), "-5"}, {minus(number(-5)), "--5"},
		{pair(pair(a, "==", b), "==", c), "(a == b) == c"}, {pair(a, "==", pair(b, "==", c)), "a == (b == c)"}, {pair(choice, "+", number(1)), "(if a then b else c) + 1"}, {field(field(x, 0), 1), "x.0.1"},

		{number(0), "0"}, {number(1<<63 - 1), "9223372036854775807"}, {number(-1<<63 + 1), "-9223372036854775807"}, {lit(boolean(0)), "false"}, {lit(boolean(1)), "true"}, {lit(sym("λ'")), "#λ'"}, {lit(sym("if")), "#if"}, {name("state"), "state"},
		{of(api.ETuple), "()"}, {of(api.ETuple, a), "(a,)"}, {of(api.ETuple, a, b), "(a, b)"}, {of(api.EList), "[]"}, {of(api.EList, a), "[a]"}, {of(api.EList, a, b, c), "[a, b, c]"}, {of(api.ESet), "{}"}, {of(api.ESet, b), "{b}"}, {of(api.ESet, b, a, b), "{b, a, b}"},
		{call("f"), "f()"}, {call("with", a, number(1)), "with(a, 1)"}, {call("or", a), "or(a)"}, {pair(a, "in", call("in", b)), "a in in(b)"}, {call("f", choice, pair(a, "or", b)), "f(if a then b else c, a or b)"}, {of(api.ETuple, choice), "(if a then b else c,)"},

		{minus(a), "-a"}, {minus(minus(a)), "--a"}, {minus(minus(number(5))), "--(5)"}, {minus(field(number(5), 0)), "-(5.0)"}, {minus(field(field(number(0), 0), 7)), "-(0.0.7)"}, {minus(field(number(-5), 0)), "--5.0"}, {minus(field(x, 0)), "-x.0"}, {minus(pair(number(5), "*", x)), "-(5 * x)"}, {minus(not(a)), "-(not a)"}, {minus(choice), "-(if a then b else c)"}, {minus(lit(boolean(1))), "-true"}, {minus(of(api.EList, number(5))), "-[5]"},
		{not(pair(a, "==", b)), "not a == b"}, {pair(not(a), "==", b), "(not a) == b"}, {not(pair(a, "and", b)), "not (a and b)"}, {not(minus(a)), "not -a"}, {not(number(5)), "not 5"}, {not(choice), "not (if a then b else c)"}, {not(pair(a, "|", b)), "not a | b"},

		{field(number(5), 0), "5.0"}, {field(number(-5), 0), "-5.0"}, {field(field(number(-5), 3), 0), "-5.3.0"}, {field(minus(number(5)), 0), "(-(5)).0"}, {field(minus(x), 0), "(-x).0"}, {field(pair(a, "+", b), 0), "(a + b).0"}, {field(call("f", a), 2), "f(a).2"}, {field(of(api.ETuple, a), 0), "(a,).0"}, {field(choice, 0), "(if a then b else c).0"}, {field(lit(sym("a")), 1<<63-1), "#a.9223372036854775807"},
		{field(field(minus(number(-5)), 0), 1), "(--5).0.1"}, {pair(number(-5), "*", number(-2)), "-5 * -2"}, {pair(number(1), "-", number(-2)), "1 - -2"}, {pair(number(1), "-", minus(number(2))), "1 - -(2)"}, {pair(field(number(-5), 0), "%", a), "-5.0 % a"},

		{pair(a, "or", pair(b, "or", c)), "a or (b or c)"}, {pair(pair(a, "or", b), "or", c), "a or b or c"}, {pair(a, "or", pair(b, "and", not(c))), "a or b and not c"}, {pair(pair(a, "|", b), "&", c), "a | b & c"}, {pair(a, "|", pair(b, `\`, c)), `a | (b \ c)`}, {pair(a, "|", pair(b, "+", c)), "a | b + c"}, {pair(pair(a, "|", b), "+", c), "(a | b) + c"},
		{pair(a, "in", pair(b, "|", c)), "a in b | c"}, {pair(pair(a, "in", b), "|", c), "(a in b) | c"}, {pair(pair(a, "+", b), "<=", pair(b, "*", c)), "a + b <= b * c"}, {pair(pair(a, "/", b), "%", c), "a / b % c"}, {pair(a, "/", pair(b, "%", c)), "a / (b % c)"}, {pair(a, "+", choice), "a + (if a then b else c)"}, {pair(pair(a, "==", b), "and", pair(b, "!=", c)), "a == b and b != c"},
		{pair(pair(a, "|", pair(b, "|", c)), "==", pair(a, "|", pair(b, "|", c))), "a | (b | c) == a | (b | c)"},

		{choice, "if a then b else c"}, {of(api.EIf, choice, choice, choice), "if if a then b else c then if a then b else c else if a then b else c"}, {let("x", number(1), let("y", choice, x)), "let x = 1 do let y = if a then b else c do x"}, {let("x", let("y", a, b), c), "let x = let y = a do b do c"},
		{fold("i", "s", of(api.EList, a), of(api.ESet), call("with", name("s"), name("i"))), "fold i, s over [a] from {} with with(s, i)"}, {fold("i", "s", choice, let("x", a, b), pair(a, "or", b)), "fold i, s over if a then b else c from let x = a do b with a or b"}, {pair(let("x", a, b), "or", fold("i", "s", a, b, c)), "(let x = a do b) or (fold i, s over a from b with c)"},
	} {
		if got, e := spelt(t, k.e); got != k.want || e != api.OK {
			t.Errorf("%q, %d, want %q", got, e, k.want)
		}
	}
}

// frames are expressions with one place each, and things that have no place in them.
func frames() []func(api.Expr) api.Expr {
	a, five, low := name("a"), number(5), number(-5)
	l := []func(api.Expr) api.Expr{
		func(e api.Expr) api.Expr { return of(api.ETuple, e) },
		func(e api.Expr) api.Expr { return of(api.EList, five, e) },
		func(e api.Expr) api.Expr { return call("f", e) },
		func(e api.Expr) api.Expr { return unary("-", e) },
		func(e api.Expr) api.Expr { return unary("not", e) },
		func(e api.Expr) api.Expr { return field(e, 0) },
		func(e api.Expr) api.Expr { return of(api.EIf, e, a, low) },
		func(e api.Expr) api.Expr { return of(api.EIf, a, e, low) },
		func(e api.Expr) api.Expr { return of(api.EIf, a, five, e) },
		func(e api.Expr) api.Expr { return let("x", e, a) },
		func(e api.Expr) api.Expr { return let("x", low, e) },
		func(e api.Expr) api.Expr { return fold("x", "y", e, a, a) },
		func(e api.Expr) api.Expr { return fold("x", "y", a, a, e) },
	}
	for _, op := range operators {
		l = append(l,
			func(e api.Expr) api.Expr { return pair(e, op, five) },
			func(e api.Expr) api.Expr { return pair(low, op, e) })
	}
	return l
}

func holdModel(t *testing.T, e api.Expr) {
	t.Helper()
	got, f := spell.Expr(e)
	if want := modelText(e); got != want || f != api.OK {
		t.Fatalf("%q, %d, want %q", got, f, want)
	}
}

// Every form in every place of every other: brackets stand where they must, and nowhere else.
func TestExprBracketsOfEveryPair(t *testing.T) {
	for _, core := range []api.Expr{name("a"), number(5), number(-5), lit(sym("a")), lit(boolean(1)), of(api.ESet)} {
		holdModel(t, core)
		for _, inner := range frames() {
			holdModel(t, inner(core))
			for _, outer := range frames() {
				holdModel(t, outer(inner(core)))
			}
		}
	}
}

func TestExprByChance(t *testing.T) {
	rnd := rand.New(rand.NewSource(1))
	for range 3000 {
		e := anyExpr(rnd, 1+rnd.Intn(4))
		if n := drafted(e).last; n < 60 {
			holdModel(t, e)
		}
	}
}

func TestExprWithoutText(t *testing.T) {
	a, b := name("a"), name("b")
	for _, e := range []api.Expr{
		{}, {Kind: -1}, {Kind: 13}, lit(api.Value{}), lit(integer(least)), lit(rowOf(api.KList)), lit(rowOf(api.KList, integer(1))), lit(rowOf(api.KTuple)), lit(rowOf(api.KSet)), lit(gauss(0, 1)), lit(boolean(2)), lit(boolean(-1)), lit(sym("")), lit(sym("true")), lit(sym("false")), lit(sym("a b")), lit(sym("1")), lit(sym("a.0")), lit(sym(strings.Repeat("s", 33))), lit(api.Value{Kind: api.KInt, Text: "x"}), lit(api.Value{Kind: api.KInt, Items: []api.Value{{}}}),
		name(""), name("if"), name("true"), name("next"), name("1"), name("a b"), name("#a"), name("a.0"), name("(a)"), name("a // b"), name(" a"), name("a "), name("a\n"), name("f()"), name("\xff"), name(strings.Repeat("n", 33)), {Kind: api.EName, Name: "a", Also: "a"}, {Kind: api.EName, Name: "a", Op: "-"}, {Kind: api.EName, Name: "a", Items: []api.Expr{a}},
		of(api.EUnary), {Kind: api.EUnary, Op: "-"}, unary("", a), unary("+", a), unary("- ", a), unary("f", number(5)), {Kind: api.EUnary, Op: "-", Items: []api.Expr{a, b}}, {Kind: api.EUnary, Op: "not"}, {Kind: api.EUnary, Op: "not", Name: "a", Items: []api.Expr{a}},
		{Kind: api.EBin, Op: "+"}, {Kind: api.EBin, Op: "+", Items: []api.Expr{a}}, {Kind: api.EBin, Op: "+", Items: []api.Expr{a, b, a}}, pair(a, "", b), pair(a, "=", b), pair(a, "not", b), pair(a, "+ 1 +", b), pair(a, "+-", b), pair(a, "or ", b), pair(a, "over", b), pair(pair(a, "?", b), "?", pair(a, "?", b)),
		of(api.EIf), of(api.EIf, a), of(api.EIf, a, b), of(api.EIf, a, b, a, b), let("if", a, b), let("", a, b), {Kind: api.ELet, Name: "x", Items: []api.Expr{a}}, {Kind: api.ELet, Name: "x", Items: []api.Expr{a, b, a}}, {Kind: api.ELet, Name: "x", Also: "y", Items: []api.Expr{a, b}}, let("x = 1 do let y", a, b),
		fold("x", "over", a, b, a), fold("in", "x", a, b, a), fold("", "", a, b, a), {Kind: api.EFold, Name: "x", Also: "y"}, {Kind: api.EFold, Name: "x", Also: "y", Items: []api.Expr{a, b}}, {Kind: api.EFold, Name: "x", Also: "y", Items: []api.Expr{a, b, a, b}},
		call(""), call("not", a), call("if", a), call("let"), call("fold", a), call("true"), call("false", a), call("f g", a), call("-", a), call("1", a), call("f()", a), {Kind: api.ECall, Name: "f"}, {Kind: api.ECall, Op: "f", Name: "f"},
		of(api.EField), field(a, -1), field(a, least), {Kind: api.EField, Items: []api.Expr{a}}, {Kind: api.EField, Value: api.Value{Int: 1}, Items: []api.Expr{a}}, {Kind: api.EField, Value: integer(0)}, {Kind: api.EField, Value: integer(0), Items: []api.Expr{a, b}}, {Kind: api.EField, Value: boolean(1), Items: []api.Expr{a}}, {Kind: api.EField, Value: sym("a"), Items: []api.Expr{a}}, {Kind: api.EField, Value: integer(0), Name: "a", Items: []api.Expr{a}},
		{Kind: api.ETuple, Name: "a"}, {Kind: api.EList, Op: "a"}, {Kind: api.ESet, Also: "a"}, of(api.EList, api.Expr{}), of(api.ETuple, a, api.Expr{}), of(api.ETuple, api.Expr{}), call("f", api.Expr{}), pair(api.Expr{}, "-", a), pair(a, "-", api.Expr{}), unary("-", api.Expr{}), field(api.Expr{}, 0), of(api.EIf, a, api.Expr{}, b), field(of(api.EField), 1), field(field(number(least), 0), 0),
	} {
		if s, f := spelt(t, e); f != api.ErrSpell {
			t.Errorf("%+v: %q, %d", e, s, f)
		}
	}
}

// What is not looked at does not count: spots, and the values of what has none.
func TestExprLeavesOutWhatDoesNotCount(t *testing.T) {
	spot := api.Spot{Off: -1, Line: 7, Col: 1 << 40}
	odd := api.Value{Kind: 99, Text: "x", Items: []api.Value{{}}}
	e := api.Expr{Kind: api.EList, At: spot, Value: odd, Items: []api.Expr{{Kind: api.EName, Name: "a", Value: odd, At: spot}, {Kind: api.ECall, Op: "f", Value: odd, Items: []api.Expr{}}}}
	if s, f := spelt(t, e); s != "[a, f()]" || f != api.OK {
		t.Errorf("%q, %d", s, f)
	}
}

func TestExprSpoiltByChance(t *testing.T) {
	rnd := rand.New(rand.NewSource(2))
	seen := [2]int{}
	for range 20000 {
		e := anyExpr(rnd, 1+rnd.Intn(3))
		for range 1 + rnd.Intn(2) {
			spoil(rnd, &e)
		}
		s, f := spelt(t, e)
		if ok := hasText(e); ok != (f == api.OK) {
			t.Fatalf("%+v: %q, %d", e, s, f)
		}
		if f == api.OK {
			seen[0]++
			if !syntax.SameExpr(exprOf(t, s), e) {
				t.Fatalf("%q is not %+v", s, e)
			}
		} else {
			seen[1]++
		}
	}
	if seen[0] < 2000 || seen[1] < 2000 {
		t.Error("too few of a kind:", seen)
	}
}

// Expressions that lie within 63 others have a text, those within 64 none.
func TestExprNests(t *testing.T) {
	for _, k := range []struct {
		wrap        func(api.Expr) api.Expr
		left, right string
		most        int // how many may be around an x
	}{
		{func(e api.Expr) api.Expr { return of(api.EList, e) }, "[", "]", 63},
		{func(e api.Expr) api.Expr { return of(api.ETuple, e) }, "(", ",)", 63},
		{func(e api.Expr) api.Expr { return call("f", e) }, "f(", ")", 63},
		{func(e api.Expr) api.Expr { return unary("-", e) }, "-", "", 63},
		{func(e api.Expr) api.Expr { return unary("not", e) }, "not ", "", 63},
		{func(e api.Expr) api.Expr { return let("y", name("a"), e) }, "let y = a do ", "", 63},
		{func(e api.Expr) api.Expr { return of(api.EIf, e, name("a"), name("b")) }, "if ", " then a else b", 63},
		{func(e api.Expr) api.Expr { return field(unary("-", e), 0) }, "(-", ").0", 31},
		{func(e api.Expr) api.Expr { return field(pair(name("a"), "-", e), 0) }, "(a - ", ").0", 63},
		{func(e api.Expr) api.Expr { return unary("-", unary("not", e)) }, "-(not ", ")", 21},
	} {
		e := name("x")
		for n := range 70 {
			want, code := strings.Repeat(k.left, n)+"x"+strings.Repeat(k.right, n), api.OK
			if n > k.most {
				want, code = "", api.ErrSpell
			}
			if s, f := spelt(t, e); s != want || f != code {
				t.Errorf("%d times %s%s: %q, %d", n, k.left, k.right, s, f)
			}
			e = k.wrap(e)
		}
	}
}

// Operators and fields in a row lie within no brackets: a row may be long, and is not copied again and again.
func TestExprOfLongRows(t *testing.T) {
	const n = 1<<16 - 3
	began := time.Now()
	for _, s := range []string{
		"x" + strings.Repeat(" + 1", n), "x" + strings.Repeat(" - (1 - 2)", n/4), "x" + strings.Repeat(" or a and b", n/4), "x" + strings.Repeat(".0", n), "-5" + strings.Repeat(".0", n), "-(5" + strings.Repeat(".0", n) + ")", "[" + strings.Repeat("x, ", n) + "x]",
		"x" + strings.Repeat(" + "+strings.Repeat("n", 32), n),
	} {
		if got, f := spell.Expr(exprOf(t, s)); got != s || f != api.OK {
			t.Errorf("%.20s..: %.20q, %d", s, got, f)
		}
	}
	if took := time.Since(began); took > time.Minute {
		t.Error("took", took)
	}
}

// R1: trees that are nested as deep as may be, and values that lie in themselves.
func TestExprOfAnything(t *testing.T) {
	const n = 1<<16 - 2
	for i, frame := range frames()[:15] { // of pairs but a few: those of others are alike
		e, odd := name("x"), api.Expr{}
		for range n {
			e, odd = frame(e), frame(odd)
		}
		if _, f := spell.Expr(odd); f != api.ErrSpell {
			t.Error(i, f)
		}
		s, f := spell.Expr(e)
		if back, g := syntax.Expr(s); f == api.OK && (g.Code != api.OK || !syntax.SameExpr(back, e)) || f != api.OK && f != api.ErrSpell {
			t.Error(i, f, g)
		}
	}
	items := make([]api.Value, 1)
	round := api.Value{Kind: api.KList, Items: items}
	items[0] = round
	number := api.Value{Kind: api.KInt, Items: items}
	for _, v := range []api.Value{round, number, {Kind: api.KBool, Int: 1, Items: items}} {
		for _, e := range []api.Expr{lit(v), {Kind: api.EField, Value: v, Items: []api.Expr{name("x")}}} {
			if s, f := spell.Expr(e); s != "" || f != api.ErrSpell {
				t.Error(s, f)
			}
		}
	}
}
