package spell_test

import (
	"math/rand"
	"strings"
	"testing"

	"sextant/api"
	"sextant/spell"
	"sextant/syntax"
)

// P11.2

func must[T any](t testing.TB, write func(T) (string, api.Errno)) func(T) string {
	return func(x T) string {
		t.Helper()
		s, e := write(x)
		if e != api.OK {
			t.Fatalf("%+v: %d", x, e)
		}
		return s
	}
}

// What is written is read as the same.
func TestSpecThereAndBack(t *testing.T) {
	rnd := rand.New(rand.NewSource(5))
	for range 3000 {
		s := anySpec(rnd)
		got, e := speltSpec(t, s)
		want := modelSpec(t, s, must(t, spell.Expr), must(t, spell.Sort))
		if got != want || e != api.OK {
			t.Fatalf("%s %d, want %s", got, e, want)
		}
		if !syntax.Same(specOf(t, got), s) {
			t.Fatalf("%s is not %+v", got, s)
		}
	}
}

// Blanks, comments and round brackets of a text are not seen in what is written of it.
func TestSpecIsWrittenInOneWay(t *testing.T) {
	rnd := rand.New(rand.NewSource(6))
	for range 1500 {
		s := anySpec(rnd)
		want, _ := spell.Spec(s)
		bracketed := modelSpec(t, s, func(e api.Expr) string { return wild(rnd, e) }, must(t, spell.Sort))
		for _, other := range []string{want, bracketed} {
			other = spaced(t, rnd, other)
			if got, e := speltSpec(t, specOf(t, other)); got != want || e != api.OK {
				t.Fatalf("of %q: %s %d, want %s", other, got, e, want)
			}
		}
	}
}

func TestSpecPutsBindsBehind(t *testing.T) {
	s := specOf(t, "object b is B; table T set arg int reply int state int start 0 {} object a is A; automaton A set arg int reply int state int start 0 {}")
	want := "table T set arg int reply int state int start 0 {\n}\nautomaton A set arg int reply int state int start 0 {\n}\nobject b is B;\nobject a is A;\n"
	if got, e := speltSpec(t, s); got != want || e != api.OK {
		t.Errorf("%s %d", got, e)
	}
}

// A set of a row is written in its order, however the text has it.
func TestSpecOrdersSets(t *testing.T) {
	s := specOf(t, "table T set arg int reply int state int start 0 { row {3, -1, 3, #a, true, {}} { a b {2, 1} } gives { a {} } next 0; }")
	want := "table T set arg int reply int state int start 0 {\n  row {true, -1, 3, #a, {}} { a b {1, 2} } gives { a {} } next 0;\n}\n"
	if got, e := speltSpec(t, s); got != want || e != api.OK {
		t.Errorf("%s %d", got, e)
	}
}

// What layer 10 takes just so, as deep as it may be nested, can be written.
func TestExprOfTextsAtTheLimit(t *testing.T) {
	wraps := [][2]string{{"[", "]"}, {"(", ")"}, {"(", ",)"}, {"f(", ")"}, {"-", ""}, {"not ", ""}, {"(not ", ")"}, {"a - (", ")"}, {"(", ").0"}, {"-(", ").0"}, {"let y = a do ", ""}, {"(if ", " then a else b)"}, {"(a == ", ")"}, {"{-(", ".1)}"}}
	cores := []string{"x", "5", "-5", "-(5)", "-(5).0", "-(5.0)", "(-5).0", "(x)", "--5", "- -(5)", "(5).0.1"}
	rnd := rand.New(rand.NewSource(7))
	seen := 0
	for range 3000 {
		s := pick(rnd, cores)
		for {
			w := pick(rnd, wraps)
			if rnd.Intn(2) == 0 {
				w = wraps[4] // a minus ahead of what it may be ahead of
			}
			longer := w[0] + s + w[1]
			if _, f := syntax.Expr(longer); f.Code != api.OK {
				break
			}
			s = longer
		}
		e := exprOf(t, s)
		got, f := spell.Expr(e)
		if f != api.OK || !syntax.SameExpr(exprOf(t, got), e) {
			t.Fatalf("%q: %q, %d", s, got, f)
		}
		if strings.Count(s, "(")+strings.Count(s, "-") > 30 {
			seen++
		}
	}
	if seen < 300 {
		t.Error("too few deep ones:", seen)
	}
}
