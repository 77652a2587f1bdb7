package eval_test

import (
	"strings"
	"testing"

	"sextant/api"
	"sextant/eval"
)

const operators = `+ - * / % == != < <= > >= and or in | & \`

// times answers so many items that are formed.
func times(n int) []api.Expr {
	var l []api.Expr
	for range n {
		l = append(l, number(1))
	}
	return l
}

// TestItems: how many items an expression of each kind has.
func TestItems(t *testing.T) {
	for kind := api.ExprKind(-1); kind <= 14; kind++ {
		for n := range 6 {
			want := false
			switch kind {
			case api.ELit, api.EName:
				want = n == 0
			case api.EUnary, api.EField:
				want = n == 1
			case api.EBin, api.ELet:
				want = n == 2
			case api.EIf, api.EFold:
				want = n == 3
			case api.ETuple, api.EList, api.ESet, api.ECall:
				want = true
			}
			e := api.Expr{Kind: kind, Value: integer(0), Name: "x", Also: "y", Op: "-", Items: times(n)}
			if got := eval.Formed(e); got != want {
				t.Errorf("kind %d, %d items: %v", kind, n, got)
			}
			if _, errno := eval.Eval(e, []string{"x"}, []api.Value{integer(0)}); (errno == api.ErrArg) == want {
				t.Errorf("kind %d, %d items: Eval answers %d", kind, n, errno)
			}
		}
	}
	for _, kind := range []api.ExprKind{-1 << 40, 1 << 40} {
		if eval.Formed(of(kind)) {
			t.Error("kind", kind)
		}
	}
}

func TestOperators(t *testing.T) {
	words := strings.Fields(operators + " not ! = && || ** // ~ <> === - <<  size AND && xor not- -- , . ( [ { => λ")
	words = append(words, "", " ", "- ", " +", "\x00", "or\n", "orx", "\xff")
	for _, op := range words {
		isUnary := op == "-" || op == "not"
		if got := eval.Formed(unary(op, number(1))); got != isUnary {
			t.Errorf("unary %q: %v", op, got)
		}
		isBinary := op != "" && strings.TrimSpace(op) == op && strings.Contains(" "+operators+" ", " "+op+" ")
		if got := eval.Formed(pair(number(1), op, number(1))); got != isBinary {
			t.Errorf("binary %q: %v", op, got)
		}
		if !eval.Formed(call(op)) || !eval.Formed(call(op, number(1), number(2))) {
			t.Errorf("call of %q", op)
		}
	}
}

func TestNames(t *testing.T) {
	x := number(1)
	for s, want := range map[string]bool{"x": true, "true": true, "false": true, "if": true, "fold": true, "λ": true, "_": true, "x'": true, "x1": true, strings.Repeat("é", 32): true,
		"": false, "1": false, "'": false, "1x": false, "x y": false, "x-y": false, "x\n": false, "#x": false, "\xff": false, "x\xff": false, "×": false, strings.Repeat("x", 33): false} {
		for what, e := range map[string]api.Expr{"name": name(s), "let": let(s, x, x), "fold": fold(s, "y", x, x, x), "fold's second": fold("y", s, x, x, x)} {
			if eval.Formed(e) != want {
				t.Errorf("%s of %q: %v", what, s, !want)
			}
		}
	}
}

func TestLiterals(t *testing.T) {
	deep := integer(1)
	for range 15 {
		deep = rowOf(api.KList, deep)
	}
	wide := rowOf(api.KTuple, make([]api.Value, 4095)...)
	for i := range wide.Items {
		wide.Items[i] = integer(1)
	}
	for _, v := range []api.Value{integer(-1 << 63), {Kind: api.KBool, Int: 1}, {Kind: api.KSym, Text: "a"}, {Kind: api.KGauss, Int: 1 << 20, Im: -1 << 20}, rowOf(api.KSet), rowOf(api.KSet, integer(1), integer(2)), deep, wide} {
		if !eval.Formed(lit(v)) {
			t.Errorf("%+v", v)
		}
	}
	for _, v := range []api.Value{{}, {Kind: 8}, {Kind: api.KBool, Int: 2}, {Kind: api.KInt, Im: 1}, {Kind: api.KInt, Text: "a"}, {Kind: api.KSym}, {Kind: api.KSym, Text: "true"}, {Kind: api.KGauss, Im: 1<<20 + 1}, rowOf(api.KSet, integer(2), integer(1)), rowOf(api.KInt, integer(1)), rowOf(api.KList, deep), rowOf(api.KTuple, append(wide.Items, integer(1))...)} {
		if eval.Formed(lit(v)) {
			t.Errorf("%+v", v)
		}
		if got := told(t, lit(v), scope{}); got != "arg" {
			t.Errorf("%+v: %s", v, got)
		}
	}
}

func TestPlaces(t *testing.T) {
	for n, want := range map[int64]bool{0: true, 1: true, 1 << 40: true, most: true, -1: false, -1 << 63: false} {
		if eval.Formed(field(of(api.ETuple), n)) != want {
			t.Errorf("place %d: %v", n, !want)
		}
	}
	for _, v := range []api.Value{{}, {Kind: 9, Int: 3, Im: 7, Text: "?"}, {Kind: api.KBool, Int: 7}} {
		if !eval.Formed(api.Expr{Kind: api.EField, Value: v, Items: times(1)}) {
			t.Errorf("place %+v: its Int alone is looked at", v)
		}
	}
}

// TestUnused: what a kind does not use is not looked at.
func TestUnused(t *testing.T) {
	odd := api.Value{Kind: 99, Int: -5, Text: "?"}
	at := api.Spot{Off: -1, Line: -2}
	x := number(1)
	for _, e := range []api.Expr{
		{Kind: api.ELit, Value: integer(1), Name: "?", Also: "?", Op: "?", At: at},
		{Kind: api.EName, Name: "x", Value: odd, Also: "?", Op: "?", At: at},
		{Kind: api.ETuple, Value: odd, Name: "?", Also: "?", Op: "?", At: at},
		{Kind: api.EList, Value: odd, Name: "?", Also: "?", Op: "?", At: at},
		{Kind: api.ESet, Value: odd, Name: "?", Also: "?", Op: "?", At: at},
		{Kind: api.EUnary, Value: odd, Name: "?", Also: "?", Op: "-", At: at, Items: times(1)},
		{Kind: api.EBin, Value: odd, Name: "?", Also: "?", Op: "-", At: at, Items: times(2)},
		{Kind: api.EIf, Value: odd, Name: "?", Also: "?", Op: "?", At: at, Items: []api.Expr{lit(api.Value{Kind: api.KBool}), x, x}},
		{Kind: api.ELet, Value: odd, Name: "x", Also: "?", Op: "?", At: at, Items: times(2)},
		{Kind: api.EFold, Value: odd, Name: "x", Also: "x", Op: "?", At: at, Items: []api.Expr{of(api.EList), x, x}},
		{Kind: api.ECall, Value: odd, Name: "?", Also: "?", Op: "set", At: at, Items: []api.Expr{of(api.EList)}},
		{Kind: api.EField, Value: api.Value{Kind: 99, Text: "?"}, Name: "?", Also: "?", Op: "?", At: at, Items: []api.Expr{of(api.ETuple, x)}},
	} {
		if !eval.Formed(e) {
			t.Errorf("%+v", e)
		}
		if _, errno := evaluated(t, e, means(t, "x", "1")); errno != api.OK {
			t.Errorf("%+v: %d", e, errno)
		}
	}
}

// TestWithin: an item that is not formed, at each place of each kind, however deep.
func TestWithin(t *testing.T) {
	x, bad := number(1), of(api.EIf)
	for kind := api.ETuple; kind <= api.EField; kind++ {
		e := api.Expr{Kind: kind, Value: integer(0), Name: "x", Also: "y", Op: "-"}
		for !eval.Formed(e) || len(e.Items) == 0 {
			e.Items = append(e.Items, x)
		}
		for i := range e.Items {
			for _, within := range []api.Expr{bad, of(api.EList, x, of(api.ESet, bad, x))} {
				e.Items[i] = within
				if eval.Formed(e) {
					t.Errorf("kind %d: item %d is not formed", kind, i)
				}
				if _, errno := eval.Eval(e, nil, nil); errno != api.ErrArg {
					t.Errorf("kind %d: item %d is not formed: %d", kind, i, errno)
				}
				e.Items[i] = x
			}
		}
	}
}

// TestDeep: expressions may lie deep within one another; a list that is an item of itself makes no call go on for ever.
func TestDeep(t *testing.T) {
	deep := work(1 << 16)
	if !eval.Formed(deep) {
		t.Error("deep")
	}
	if v, errno := eval.Eval(deep, nil, nil); errno != api.ErrStuck || v.Kind != 0 {
		t.Error("deep:", v, errno)
	}
	inmost := &deep
	for len(inmost.Items) > 0 {
		inmost = &inmost.Items[0]
	}
	*inmost = name("y")
	if l := eval.Free(deep); len(l) != 1 || l[0] != "y" {
		t.Error("deep:", l)
	}
	*inmost = of(api.EIf)
	if eval.Formed(deep) {
		t.Error("deep, and not formed")
	}
	x := number(1)
	for _, e := range []api.Expr{of(api.ETuple, x), of(api.EIf, x, x, x), let("x", x, x), fold("x", "y", x, x, x), pair(x, "+", x), call("f", x, x), {Items: times(2)}} {
		e = loops(e)
		if eval.Formed(e) {
			t.Error("formed: one that is an item of itself")
		}
		if v, errno := eval.Eval(e, nil, nil); errno != api.ErrArg || v.Kind != 0 {
			t.Error("an item of itself:", v, errno)
		}
		if l := eval.Free(e); len(l) > 0 {
			t.Error("an item of itself:", l)
		}
	}
}
