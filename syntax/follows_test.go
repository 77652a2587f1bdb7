package syntax_test

import (
	"math/rand"
	"slices"
	"strings"
	"testing"

	"sextant/api"
	"sextant/syntax"
	"sextant/token"
)

// P10.6

// A text has one tree: the model, which goes through all ways, panics where there are two. Here it is the same however it is spaced.
func TestBlanksAndCommentsChangeSpotsAlone(t *testing.T) {
	rnd := rand.New(rand.NewSource(15))
	for i := range 500 {
		l := wordsOf(rnd, "spec", 1+rnd.Intn(4))
		if i%2 == 0 {
			l = spoilt(rnd, l)
		}
		plain, wide := strings.Join(l, " "), spaced(rnd, l)
		a, f := syntax.Parse(plain)
		b, g := syntax.Parse(wide)
		if f.Code != g.Code || numberOf(t, plain, f) != numberOf(t, wide, g) {
			t.Fatalf("%q: %+v, %q: %+v", plain, f, wide, g)
		}
		if !syntax.Same(a, b) {
			t.Fatalf("%q and %q: %+v, %+v", plain, wide, a, b)
		}
	}
}

// numberOf tells at which token a fault is; -1: at none.
func numberOf(t *testing.T, s string, f api.Fault) int {
	t.Helper()
	l, g := token.Scan(s)
	if g.Code != api.OK {
		t.Fatal(s, g)
	}
	return slices.IndexFunc(l, func(x api.Token) bool { return f.Code != api.OK && x.At == f.At })
}

func TestBlanksMayBeLeftOut(t *testing.T) {
	for tight, wide := range map[string]string{
		"1+2*x.0- -3": "1 + 2 * x . 0 - - 3", "a==b": "a == b", "[1,2,-3]": "[ 1 , 2 , - 3 ]", "f(x)(": "f ( x ) (", "x.0.1": "x. 0 .1", "not(x)or(y)": "not ( x ) or ( y )", "if(x)then(y)else(z)": "if ( x ) then ( y ) else ( z )", "a/ /b": "a / / b", "a//b": "a",
	} {
		a, f := syntax.Expr(tight)
		b, g := syntax.Expr(wide)
		if f.Code != g.Code || !syntax.SameExpr(a, b) && f.Code == api.OK {
			t.Errorf("%q: %+v, %+v; %q: %+v, %+v", tight, a, f, wide, b, g)
		}
	}
}

func TestRoundBracketsChangeNothing(t *testing.T) {
	rnd := rand.New(rand.NewSource(16))
	seen := 0
	for range 250 {
		l := wordsOf(rnd, "spec", 1+rnd.Intn(4))
		s := strings.Join(l, " ")
		way, f := modelRead("spec", s)
		if f.Code != api.OK { // a value above the limits
			continue
		}
		a := specOf(t, s)
		k := new(maker)
		k.spec(way)
		for _, x := range k.spans {
			more := slices.Insert(slices.Insert(slices.Clone(l), x.to, ")"), x.from, "(")
			b, f := syntax.Parse(strings.Join(more, " "))
			if f != (api.Fault{}) || !syntax.Same(a, b) {
				t.Fatalf("%q with brackets: %q: %+v", s, more, f)
			}
			seen++
		}
	}
	if seen < 1000 {
		t.Error("too few expressions:", seen)
	}
}

// Brackets around an expression that lies within 63 others are one too many.
func TestRoundBracketsMayNestTooDeep(t *testing.T) {
	s := strings.Repeat("[", 63) + "x" + strings.Repeat("]", 63)
	if _, f := syntax.Expr(s); f != (api.Fault{}) {
		t.Error(f)
	}
	s = strings.Replace(s, "x", "(x)", 1)
	_, f := syntax.Expr(s)
	faultAt(t, s, f, api.ErrNest, 64)
}
