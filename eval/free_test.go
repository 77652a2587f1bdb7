package eval_test

import (
	"fmt"
	"strings"
	"testing"

	"sextant/api"
	"sextant/eval"
)

func TestFree(t *testing.T) {
	for s, want := range map[string]string{
		"let x = y do x + z":                     "y z",
		"1":                                      "",
		"x":                                      "x",
		"x + x * x":                              "x",
		"b + a + c + a":                          "a b c",
		"b + B + b' + β + b1 + ab":               "B ab b b' b1 β",
		"let x = x do x":                         "x",
		"let x = 1 do x":                         "",
		"(let x = 1 do x) + x":                   "x",
		"x + (let x = 1 do x)":                   "x",
		"let x = 1 do let x = 2 do x":            "",
		"let x = 1 do (let x = 2 do x) + x":      "",
		"let x = 1 do (let y = x do y) + y":      "y",
		"fold x, a over x from x with x":         "x",
		"fold x, a over a from a with a":         "a",
		"fold x, a over [1] from 2 with x + a":   "",
		"fold x, a over l from m with x + a + b": "b l m",
		"fold x, x over l from m with x":         "l m",
		"(fold x, x over [] from 1 with x) + x":  "x",
		"let x = 1 do (fold x, x over [] from 1 with x) + x":      "",
		"fold x, a over [] from 1 with let x = x do x":            "",
		"let x = y do fold i, a over z from i with x + i + a + b": "b i y z",
		"f(g(x), size(y))":   "x y",
		"{x, [y, (z, w)]}":   "w x y z",
		"if x then y else z": "x y z",
		"not x and -y < z.0": "x y z",
		"#s":                 "",
	} {
		if got := strings.Join(eval.Free(parsed(t, s)), " "); got != want {
			t.Errorf("%s: %s, not %s", s, got, want)
		}
	}
}

// TestFreeOfAny: expressions that are not formed are gone through, too.
func TestFreeOfAny(t *testing.T) {
	x, y, z := name("x"), name("y"), name("z")
	for i, c := range []struct {
		e    api.Expr
		want []string
	}{
		{api.Expr{}, nil},
		{name(""), []string{""}},
		{name("\xff"), []string{"\xff"}},
		{of(api.ETuple, name("b"), name(""), name("é"), name("1")), []string{"", "1", "b", "é"}},
		{api.Expr{Kind: api.EName, Name: "x", Items: []api.Expr{y, of(api.EList, z)}}, []string{"x", "y", "z"}},
		{of(api.ELit, x), []string{"x"}},
		{of(0, x), []string{"x"}},
		{of(99, x, y), []string{"x", "y"}},
		{api.Expr{Kind: api.EList, Name: "x", Also: "x", Items: []api.Expr{x}}, []string{"x"}},
		{api.Expr{Kind: api.ECall, Op: "x"}, nil},
		{let("x", y, z), []string{"y", "z"}},
		{api.Expr{Kind: api.ELet, Name: "x"}, nil},
		{api.Expr{Kind: api.ELet, Name: "x", Items: []api.Expr{x}}, []string{"x"}},
		{api.Expr{Kind: api.ELet, Name: "x", Also: "y", Items: []api.Expr{z, y}}, []string{"y", "z"}},
		{api.Expr{Kind: api.ELet, Name: "x", Items: []api.Expr{z, x, y}}, []string{"y", "z"}},
		{api.Expr{Kind: api.ELet, Name: "x", Items: []api.Expr{z, x, x}}, []string{"x", "z"}},
		{api.Expr{Kind: api.ELet, Name: "", Items: []api.Expr{z, name("")}}, []string{"z"}},
		{api.Expr{Kind: api.EFold, Name: "x", Also: "y"}, nil},
		{api.Expr{Kind: api.EFold, Name: "x", Also: "y", Items: []api.Expr{x, y}}, []string{"x", "y"}},
		{api.Expr{Kind: api.EFold, Name: "x", Also: "y", Items: []api.Expr{z, z, pair(x, "+", y)}}, []string{"z"}},
		{api.Expr{Kind: api.EFold, Name: "x", Also: "y", Items: []api.Expr{z, z, x, y}}, []string{"y", "z"}},
		{api.Expr{Kind: api.EFold, Name: "x", Also: "y", Items: []api.Expr{z, z, y, x}}, []string{"x", "z"}},
		{let("x", z, of(99, of(api.EName, x), x)), []string{"", "z"}},
		{let("x", z, api.Expr{Kind: api.EName, Name: "y", Items: []api.Expr{x}}), []string{"y", "z"}},
	} {
		before := fmt.Sprintf("%+v", c.e)
		if got := eval.Free(c.e); fmt.Sprint(len(got), got) != fmt.Sprint(len(c.want), c.want) {
			t.Errorf("row %d: %q, not %q", i, got, c.want)
		}
		if fmt.Sprintf("%+v", c.e) != before {
			t.Errorf("row %d has changed", i)
		}
	}
}
