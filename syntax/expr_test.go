package syntax_test

import (
	"math"
	"math/rand"
	"slices"
	"strings"
	"testing"

	"sextant/api"
	"sextant/syntax"
)

func TestErrorNumbers(t *testing.T) {
	if api.ErrSyntax != 100 || api.ErrNest != 101 || api.ErrBig != 42 || api.MaxNest != 64 {
		t.Error("an error's number, or MaxNest, is another")
	}
}

// P10.1

func TestReservedWordsInOrder(t *testing.T) {
	want := []string{"true", "false", "if", "then", "else", "let", "do", "fold", "over", "from", "with", "and", "or", "not", "in", "when", "give", "next"}
	got := syntax.Reserved()
	if !slices.Equal(got, want) {
		t.Errorf("Reserved() = %q", got)
	}
	got[0], got[17] = "x", "y"
	if !slices.Equal(syntax.Reserved(), want) {
		t.Error("what the caller changes is changed for the next one")
	}
	if _, f := syntax.Expr("x"); f.Code != api.OK {
		t.Error("what the caller changes is reserved:", f)
	}
}

func TestReservedWordsNameNothing(t *testing.T) {
	for _, w := range syntax.Reserved() {
		for _, x := range []struct {
			ahead, behind string
		}{
			{"let ", " = 1 do 2"}, {"fold ", ", b over s from 0 with 1"}, {"fold a, ", " over s from 0 with 1"},
		} {
			s := x.ahead + w + x.behind
			_, f := syntax.Expr(s)
			faultAt(t, s, f, api.ErrSyntax, len(x.ahead))
			holdExpr(t, s)
		}
		s := "automaton A set arg int reply int state int start 0 { rule r for " + w + " in s give 1 next 2; }"
		_, f := syntax.Parse(s)
		faultAt(t, s, f, api.ErrSyntax, strings.Index(s, "for")+4)
		if w == "true" || w == "false" {
			continue
		}
		s = "1 + " + w
		_, f = syntax.Expr(s)
		faultAt(t, s, f, api.ErrSyntax, 4)
		s = w + " + 1"
		_, f = syntax.Expr(s)
		off := 0
		if w == "if" || w == "let" || w == "fold" || w == "not" { // these begin something
			off = len(w) + 1
		}
		faultAt(t, s, f, api.ErrSyntax, off)
	}
}

// All words of the grammar that are not reserved are variables, too.
func TestOtherWordsAreNames(t *testing.T) {
	for _, w := range strings.Fields("automaton table linear set interval arg reply state start object is rule for row gives int bool symbol gauss list iff True x λ' _") {
		for _, s := range []string{w, "let " + w + " = " + w + " do " + w, "fold " + w + ", " + w + " over " + w + " from 0 with " + w, w + "." + "0"} {
			e := exprOf(t, s)
			for x := range syntax.Walk(e) {
				if x.Kind == api.EName && x.Name != w {
					t.Errorf("Expr(%q): %+v", s, e)
				}
			}
			holdExpr(t, s)
		}
	}
}

// Where no expression is, any word may be a name.
func TestAnyWordIsANameElsewhere(t *testing.T) {
	l := append(syntax.Reserved(), strings.Fields("automaton table linear set interval arg reply state start object is rule for row gives int bool symbol gauss list")...)
	for _, w := range l {
		s := strings.ReplaceAll("automaton W linear arg int reply int state int start 0 { rule W give 1 next 2; rule W for x in s give 1 next 2; rule W when x give 1 next 2; } "+
			"table W set arg int reply int state int start 0 { row 0 { W W 1, W W true } gives { W 2, W false } next 0; } object W is W;", "W", w)
		x := specOf(t, s)
		r := x.Autos[1].Rows[0]
		if x.Autos[0].Name != w || x.Autos[0].Rules[0].Name != w || x.Autos[1].Name != w || x.Binds[0].Object != w || x.Binds[0].Auto != w ||
			r.Calls[1].Who != w || r.Calls[1].Op != w || r.Replies[1].Who != w {
			t.Errorf("%q: %+v", s, x)
		}
		holdParse(t, s)
	}
}

func TestSymbolsAreNoWords(t *testing.T) {
	for _, s := range []string{"#if", "#if (1)", "1 #or 2", "#not 1", "let #x = 1 do 2", "fold a, #b over s from 0 with 1", "x.#a", "#true'", "1 #in {1}", "[#let, #in]"} {
		holdExpr(t, s)
	}
	for _, s := range []string{"#int", "list #int", "#list int"} {
		_, f := syntax.Sort(s)
		faultAt(t, s, f, api.ErrSyntax, strings.Index(s, "#"))
		holdSort(t, s)
	}
	for _, s := range []string{"#object x is y;", "object #x is y;", "object x #is y;", "object x is #y;"} {
		_, f := syntax.Parse(s)
		faultAt(t, s, f, api.ErrSyntax, strings.Index(s, "#"))
	}
}

func TestWhichWordsAreCalled(t *testing.T) {
	never := strings.Fields("true false if let fold not")
	for _, w := range append(syntax.Reserved(), "f", "set", "int", "rule", "state", "λ'") {
		s := "1 + " + w + "(x, 2)"
		e, f := syntax.Expr(s)
		if !slices.Contains(never, w) {
			if want := pair(integer(1), "+", call(w, name("x"), integer(2))); f.Code != api.OK || !alike(unplaced(e), want) {
				t.Errorf("Expr(%q) = %+v, %+v", s, e, f)
			}
		} else if w == "true" || w == "false" {
			faultAt(t, s, f, api.ErrSyntax, 4+len(w)) // the bracket
		} else {
			faultAt(t, s, f, api.ErrSyntax, 4)
		}
		for _, x := range []string{w + "()", w + "(1)", w + " (1,)", w + "(1, 2", w + "((1, 2))", w + "\n(1)", w + "(", "-" + w + "(1).0", "x or " + w + "(1)", "not " + w + "(1)", w + "(1)(2)", w + "(1) then"} {
			holdExpr(t, x)
		}
	}
}

// The grammar, and the tree

func TestExprOfExamples(t *testing.T) {
	x, s := name("x"), name("s")
	for _, c := range []struct {
		s    string
		want api.Expr
	}{
		{"1 + 2 * x.0 - -3", pair(pair(integer(1), "+", pair(integer(2), "*", field(x, 0))), "-", integer(-3))},
		{"a or b and not c == d", pair(name("a"), "or", pair(name("b"), "and", unary("not", pair(name("c"), "==", name("d")))))},
		{"(1)", integer(1)},
		{"(1,)", tuple(integer(1))},
		{"let x = 1 do x in {x}", api.Expr{Kind: api.ELet, Name: "x", Items: []api.Expr{integer(1), pair(x, "in", set(x))}}},
		{"with(s, 1)", call("with", s, integer(1))},
		{"()", tuple()}, {"[]", list()}, {"{}", set()}, {"f()", call("f")},
		{"((1))", integer(1)}, {"((1),)", tuple(integer(1))}, {"((1,),)", tuple(tuple(integer(1)))}, {"(1, 2)", tuple(integer(1), integer(2))},
		{"(1, 2, x)", tuple(integer(1), integer(2), x)}, {"[1]", list(integer(1))}, {"{1, 1}", set(integer(1), integer(1))},
		{"true", truth(1)}, {"false", truth(0)}, {"#a", symbol("a")}, {"#if", symbol("if")}, {"0", integer(0)}, {"-0", integer(0)},
		{"9223372036854775807", integer(math.MaxInt64)}, {"-9223372036854775807", integer(-math.MaxInt64)},
		{"-5", integer(-5)}, {"- 5", integer(-5)}, {"-(5)", unary("-", integer(5))}, {"--5", unary("-", integer(-5))}, {"---5", unary("-", unary("-", integer(-5)))},
		{"-x", unary("-", x)}, {"--x", unary("-", unary("-", x))}, {"-x.0", unary("-", field(x, 0))}, {"(-x).0", field(unary("-", x), 0)},
		{"-5.0", field(integer(-5), 0)}, {"-5.0.1", field(field(integer(-5), 0), 1)}, {"--5.0", unary("-", field(integer(-5), 0))}, {"5.0", field(integer(5), 0)},
		{"-(5).0", unary("-", field(integer(5), 0))},
		{"x.0.1", field(field(x, 0), 1)}, {"(1, 2).1", field(tuple(integer(1), integer(2)), 1)}, {"f(x).2", field(call("f", x), 2)}, {"[1].0", field(list(integer(1)), 0)},
		{"1 - 2 - 3", pair(pair(integer(1), "-", integer(2)), "-", integer(3))}, {"1-2", pair(integer(1), "-", integer(2))}, {"1 - -2", pair(integer(1), "-", integer(-2))},
		{"1 - (2 - 3)", pair(integer(1), "-", pair(integer(2), "-", integer(3)))},
		{"1 / 2 * 3 % 4", pair(pair(pair(integer(1), "/", integer(2)), "*", integer(3)), "%", integer(4))},
		{`s | x & s \ x`, pair(pair(pair(s, "|", x), "&", s), `\`, x)}, {"s | x + s", pair(s, "|", pair(x, "+", s))},
		{"s | x == s & x", pair(pair(s, "|", x), "==", pair(s, "&", x))},
		{"not not x", unary("not", unary("not", x))}, {"not x == s", unary("not", pair(x, "==", s))}, {"(not x) == s", pair(unary("not", x), "==", s)},
		{"not x and s", pair(unary("not", x), "and", s)}, {"not (x and s)", unary("not", pair(x, "and", s))}, {"not(x)", unary("not", x)},
		{"x or s or x", pair(pair(x, "or", s), "or", x)}, {"x and s and x", pair(pair(x, "and", s), "and", x)}, {"x and s or x and s", pair(pair(x, "and", s), "or", pair(x, "and", s))},
		{"(x == s) == x", pair(pair(x, "==", s), "==", x)}, {"x in s", pair(x, "in", s)}, {"in(x) in in(s)", pair(call("in", x), "in", call("in", s))},
		{"if x then s else 1 + 2", api.Expr{Kind: api.EIf, Items: []api.Expr{x, s, pair(integer(1), "+", integer(2))}}},
		{"(if x then s else 1) + 2", pair(api.Expr{Kind: api.EIf, Items: []api.Expr{x, s, integer(1)}}, "+", integer(2))},
		{"if(x)then(s)else(1)", api.Expr{Kind: api.EIf, Items: []api.Expr{x, s, integer(1)}}},
		{"fold a, b over s from 0 with x", api.Expr{Kind: api.EFold, Name: "a", Also: "b", Items: []api.Expr{s, integer(0), x}}},
		{"fold a, a over over(s) from from(0) with with(x)", api.Expr{Kind: api.EFold, Name: "a", Also: "a", Items: []api.Expr{call("over", s), call("from", integer(0)), call("with", x)}}},
		{"let y = let x = 1 do 2 do 3", api.Expr{Kind: api.ELet, Name: "y", Items: []api.Expr{{Kind: api.ELet, Name: "x", Items: []api.Expr{integer(1), integer(2)}}, integer(3)}}},
	} {
		e, f := syntax.Expr(c.s)
		if f != (api.Fault{}) || !alike(unplaced(e), c.want) {
			t.Errorf("Expr(%q) = %+v, %+v, want %+v", c.s, e, f, c.want)
		}
		holdExpr(t, c.s)
	}
}

// Each two operators next to one another are grouped as their levels say.
func TestLevels(t *testing.T) {
	levels := [][]string{{"or"}, {"and"}, {"=="}, {"|", "&", `\`}, {"+", "-"}, {"*", "/", "%"}}
	levels[2] = []string{"==", "!=", "<", "<=", ">", ">=", "in"}
	a, b, c := name("a"), name("b"), name("c")
	for i, l := range levels {
		for _, op := range l {
			for j, m := range levels {
				for _, next := range m {
					s := "a " + op + " b " + next + " c"
					e, f := syntax.Expr(s)
					if i == 2 && j == 2 {
						faultAt(t, s, f, api.ErrSyntax, 5+len(op))
						continue
					}
					want := pair(a, op, pair(b, next, c))
					if j <= i {
						want = pair(pair(a, op, b), next, c)
					}
					if f.Code != api.OK || !alike(unplaced(e), want) {
						t.Errorf("Expr(%q) = %+v, %+v, want %+v", s, e, f, want)
					}
				}
			}
		}
	}
}

func TestSpotsOfExpressions(t *testing.T) {
	e := exprOf(t, "λ +\n( (-3 ) ).0 * f(x)")
	want := []api.Spot{
		{Off: 3, Line: 1, Col: 3},   // +
		{Off: 0, Line: 1, Col: 1},   // λ
		{Off: 17, Line: 2, Col: 13}, // *
		{Off: 14, Line: 2, Col: 10}, // .
		{Off: 8, Line: 2, Col: 4},   // -3
		{Off: 19, Line: 2, Col: 15}, // f
		{Off: 21, Line: 2, Col: 17}, // x
	}
	var got []api.Spot
	for x := range syntax.Walk(e) {
		got = append(got, x.At)
	}
	if !slices.Equal(got, want) {
		t.Errorf("%v, want %v", got, want)
	}
	for s, off := range map[string]int{
		"(x)": 1, "((x))": 2, "(x,)": 0, " ()": 1, " [x]": 1, " {x}": 1, " f(x)": 1, "- 1": 0, "-1.0": 2, "- x": 0, " not x": 1, "x.0.1": 3, "((x).0)": 4,
		"x == y": 2, "(x == y)": 3, " if x then y else z": 1, " let x = 1 do 2": 1, " fold a, b over c from d with e": 1, " #a": 1, " true": 1, "(x + y) + z": 8,
		"a or b and c": 2, "a and b or c": 8,
	} {
		if e := exprOf(t, s); e.At != (api.Spot{Off: off, Line: 1, Col: off + 1}) {
			t.Errorf("Expr(%q): at %+v, want %d", s, e.At, off)
		}
	}
}

// P10.3, P10.2

func TestExprFaults(t *testing.T) {
	for s, off := range map[string]int{
		"a == b == c": 7, "if": 2, "": 0, " ": 1, "// x": 4, "1 2": 2, "1 +": 3, "+ 1": 0, "[1,]": 3, "{1,}": 3, "f(1,)": 4, "(1, 2,)": 6, "(,)": 1, "[,]": 1, "(": 1, ")": 0, "(1": 2, "(1]": 2, "[1)": 2,
		"x.": 2, "x.y": 2, "x.-1": 2, "x.#a": 2, ".0": 0, "x .0 .": 6, "1 = 2": 2, "1;": 1, "1,2": 1, "-": 1, "--": 2, "- +": 2, "not": 3, "not not": 7, "1 not 2": 2, "1 + not x": 4, "1 + not(x)": 4, "1 == not x": 5, "-not x": 1,
		"1 + if x then y else z": 4, "1 + if(x) then y else z": 4, "x and let y = 1 do 2": 6, "not fold a, b over c from d with e": 4, "-if(x) then y else z": 1,
		"if x": 4, "if x then": 9, "if x then y": 11, "if x then y else": 16, "if x else y": 5, "if then": 3, "if x, y": 4,
		"let": 3, "let 1": 4, "let x": 5, "let x == 1": 6, "let x = 1": 9, "let x = do 1": 8, "let x = 1 do": 12, "let (x) = 1 do 2": 4, "let x = 1 in 2": 14, "let in = 1 do 2": 4,
		"fold": 4, "fold a": 6, "fold a b": 7, "fold a,": 7, "fold a, b": 9, "fold a, b c": 10, "fold a, b over": 14, "fold a, b over s with": 17, "fold a, b over s from 0": 23, "fold a, b over s from 0 with": 28, "fold (a, b) over s from 0 with 1": 5,
		"true(1)": 4, "false (1)": 6, "x (": 3, "then": 0, "when x": 0, "x when y": 2, "automaton A": 10, "1.0.x": 4, "(1)(2)": 3, "[1][0]": 3, "#a(1)": 2, "1(2)": 1, "f(x": 3, "f(x;": 3, "a < b > c": 6, "a in b in c": 7, "1 + + 2": 4,
		"a or": 4, "a and or": 6, "or": 0, "and x": 0,
	} {
		e, f := syntax.Expr(s)
		faultAt(t, s, f, api.ErrSyntax, off)
		if !alike(e, api.Expr{}) {
			t.Errorf("Expr(%q): with a fault %+v", s, e)
		}
		holdExpr(t, s)
	}
}

// What layer 9 finds wrong comes first, wherever it stands.
func TestTokensFaultsComeFirst(t *testing.T) {
	deep := strings.Repeat("(", 70)
	for _, c := range []struct {
		s    string
		code api.Errno
		off  int
	}{
		{") ) ?", api.ErrSpec, 4}, {"1 1 007", api.ErrNumber, 4}, {") #true", api.ErrWord, 2}, {") " + strings.Repeat("a", 33), api.ErrWord, 2},
		{deep + " \"", api.ErrSpec, 71}, {"x \xff", api.ErrSpec, 2}, {"9223372036854775808", api.ErrNumber, 0}, {"-9223372036854775808", api.ErrNumber, 1}, {") // \xff\n!", api.ErrSpec, 7},
	} {
		e, f := syntax.Expr(c.s)
		faultAt(t, c.s, f, c.code, c.off)
		x, f := syntax.Sort(c.s)
		faultAt(t, c.s, f, c.code, c.off)
		s, f := syntax.Parse(c.s)
		faultAt(t, c.s, f, c.code, c.off)
		if !alike(e, api.Expr{}) || !alike(x, api.Sort{}) || !alike(s, api.Spec{}) {
			t.Errorf("%q: with a fault %+v, %+v, %+v", c.s, e, x, s)
		}
	}
}

// nests are expressions that have one within them, which lies that much deeper.
var nests = []struct {
	ahead, behind string
	deeper        int
}{
	{"(", ")", 1}, {"[", "]", 1}, {"{", "}", 1}, {"(", ",)", 1}, {"(1, ", ")", 1}, {"[1, ", "]", 1}, {"f(", ")", 1}, {"f(x, ", ", 1)", 1},
	{"if ", " then 1 else 2", 1}, {"if 1 then ", " else 2", 1}, {"if 1 then 2 else ", "", 1}, {"let x = ", " do 1", 1}, {"let x = 1 do ", "", 1},
	{"fold a, b over ", " from 1 with 2", 1}, {"fold a, b over 1 from ", " with 2", 1}, {"fold a, b over 1 from 2 with ", "", 1},
	{"not (", ")", 2}, {"- (", ")", 2}, {"not not (", ")", 3}, {"1 + (", ")", 1}, {"-1 * (", ") + 1", 1}, {"a or b and c == d | e + f * (", ").0", 1}, {"not a == - (", ")", 3},
}

func TestNestsOfExpressions(t *testing.T) {
	for _, n := range nests {
		for k := range 66 {
			s := strings.Repeat(n.ahead, k) + "x" + strings.Repeat(n.behind, k)
			_, f := syntax.Expr(s)
			if k*n.deeper < 64 {
				if f != (api.Fault{}) {
					t.Errorf("%q %d times: %+v", n.ahead, k, f)
				}
			} else if f.Code != api.ErrNest {
				t.Errorf("%q %d times: %+v", n.ahead, k, f)
			}
			if k >= 20 && k <= 22 || k >= 31 && k <= 33 || k >= 63 {
				holdExpr(t, s)
			}
		}
	}
}

func TestNestsOfOperators(t *testing.T) {
	for _, op := range []string{"not ", "- "} {
		_, f := syntax.Expr(strings.Repeat(op, 63) + "x")
		if f != (api.Fault{}) {
			t.Errorf("63 times %q: %+v", op, f)
		}
		s := strings.Repeat(op, 64) + "x"
		_, f = syntax.Expr(s)
		faultAt(t, s, f, api.ErrNest, 64*len(op))
	}
	if e, f := syntax.Expr(strings.Repeat("- ", 64) + "5"); f != (api.Fault{}) || e.Kind != api.EUnary { // the last one is the number's
		t.Error("64 times - and a number:", f)
	}
	s := strings.Repeat("- ", 65) + "5"
	_, f := syntax.Expr(s)
	faultAt(t, s, f, api.ErrNest, 128)
	s = strings.Repeat("not ", 32) + strings.Repeat("- ", 32) + "x"
	_, f = syntax.Expr(s)
	faultAt(t, s, f, api.ErrNest, 32*4+32*2)
	if _, f = syntax.Expr(s[2:]); f.Code != api.ErrSyntax {
		t.Error("t - ..:", f)
	}
	if _, f = syntax.Expr(s[4:]); f != (api.Fault{}) {
		t.Error("32 times - within 31 times not:", f)
	}
	// What is a level's operand alone does not count.
	for _, s := range []string{strings.Repeat("1 + ", 300) + "1", strings.Repeat("x or ", 300) + "x", "x" + strings.Repeat(".0", 300), strings.Repeat("not x and ", 300) + "x", strings.Repeat("-x * ", 300) + "x"} {
		if _, f := syntax.Expr(s); f != (api.Fault{}) {
			t.Errorf("%.20q..: %+v", s, f)
		}
	}
}

func TestSixtyFourBrackets(t *testing.T) {
	round := func(n int, inner string) string { return strings.Repeat("(", n) + inner + strings.Repeat(")", n) }
	if e, f := syntax.Expr(round(63, "1")); f != (api.Fault{}) || !alike(unplaced(e), integer(1)) {
		t.Error("63 brackets:", e, f)
	}
	for _, inner := range []string{"1", "x", "-1", "not x", "if 1 then 2 else 3", "()", "+", ",", "]", ";", "then", "", "1 +"} {
		s := round(64, inner)
		if inner == "" {
			s = strings.Repeat("(", 64) // the end stands there
		}
		_, f := syntax.Expr(s)
		faultAt(t, s, f, api.ErrNest, 64)
		holdExpr(t, s)
	}
	for _, inner := range []string{"", "-1", "-1.0", "#a", "true", "f()", "[]", "{}", "()", "x + 1 - -2"} { // nothing begins within them
		s := round(63, inner)
		if inner == "" {
			s = round(64, inner)
		}
		if _, f := syntax.Expr(s); f != (api.Fault{}) {
			t.Errorf("%q: %+v", s, f)
		}
		holdExpr(t, s)
	}
	for inner, off := range map[string]int{ // off: where something begins within them, or would
		"-x": 1, "--1": 1, "- )": 2, "-": 1, "not x": 4, "not": 3, "x + -y": 5, "[)]": 1, "[1]": 1, "{1}": 1, "f(,)": 2, "f(1)": 2, "(1)": 1, "(": 1, "(,)": 1, "if": 2, "if;": 2, "let x = ": 8, "fold a, b over then": 15,
	} {
		s := strings.Repeat("(", 63) + inner
		_, f := syntax.Expr(s)
		faultAt(t, s, f, api.ErrNest, 63+off)
		holdExpr(t, s)
		holdExpr(t, s+strings.Repeat(")", 63))
	}
}

// What is wrong ahead of a place where something lies too deep comes first, and the other way round.
func TestWhichFaultIsFirst(t *testing.T) {
	deep := strings.Repeat("(", 64)
	for _, c := range []struct {
		s    string
		code api.Errno
		off  int
	}{
		{"x )" + deep + "1", api.ErrSyntax, 2}, {deep + "1 x )", api.ErrNest, 64}, {"(1, ) ; " + deep, api.ErrSyntax, 6}, {"[" + deep + "1", api.ErrNest, 64}, {"x." + deep, api.ErrSyntax, 2}, {deep + ") ;", api.ErrSyntax, 66}, {deep[1:] + "x x", api.ErrSyntax, 65},
	} {
		_, f := syntax.Expr(c.s)
		faultAt(t, c.s, f, c.code, c.off)
		holdExpr(t, c.s)
	}
}

func TestEveryShortExpression(t *testing.T) {
	n := 0
	for _, c := range []struct {
		most  int
		words string
	}{
		{2, strings.Join(pool, " ")},
		{3, "x 1 #a true - not + == and ( ) [ ] { , } . if then let = do fold over when in f( true( in("},
		{5, "x 1 - not + == ( ) , ."},
		{6, "1 - ( ) ,"},
		{7, "x - . 0 not"},
		{7, "if x then y else if("},
		{8, "let x = do in 1"},
		{9, "fold a , over s from with"},
	} {
		for s := range everyRow("expr", c.most, strings.Fields(c.words)...) {
			holdExpr(t, s)
			n++
		}
	}
	t.Log(n, "texts")
}

func TestExpressionsByChance(t *testing.T) {
	rnd := rand.New(rand.NewSource(10))
	for range 600 {
		l := wordsOf(rnd, "expr", 1+rnd.Intn(5))
		holdExpr(t, spaced(rnd, l))
		for range 3 {
			l = spoilt(rnd, l)
			holdExpr(t, spaced(rnd, l))
		}
	}
}

// P10.3 Sort

func TestSorts(t *testing.T) {
	one := func(k api.SortKind, items ...api.Sort) api.Sort { return api.Sort{Kind: k, Items: items} }
	for _, c := range []struct {
		s    string
		want api.Sort
	}{
		{"int", one(api.SInt)}, {"bool", one(api.SBool)}, {"symbol", one(api.SSym)}, {"gauss", one(api.SGauss)}, {"list int", one(api.SList, one(api.SInt))}, {"set bool", one(api.SSet, one(api.SBool))},
		{"()", one(api.STuple)}, {"(int,)", one(api.STuple, one(api.SInt))}, {"(int, bool)", one(api.STuple, one(api.SInt), one(api.SBool))}, {"(int, bool, ())", one(api.STuple, one(api.SInt), one(api.SBool), one(api.STuple))},
		{"list (int, set symbol)", one(api.SList, one(api.STuple, one(api.SInt), one(api.SSet, one(api.SSym))))}, {"list list set gauss // x", one(api.SList, one(api.SList, one(api.SSet, one(api.SGauss))))},
	} {
		if x, f := syntax.Sort(c.s); f != (api.Fault{}) || !alike(x, c.want) {
			t.Errorf("Sort(%q) = %+v, %+v", c.s, x, f)
		}
		holdSort(t, c.s)
	}
	for s, off := range map[string]int{"(int)": 4, "": 0, "list": 4, "set": 3, "list list": 9, "int int": 4, "Int": 0, "x": 0, "1": 0, "(": 1, "(int": 4, "(int,": 5, "(int, bool,)": 11, "(,)": 1, ")": 0, "[int]": 0, "list (": 6, "list, int": 4, "() int": 3, "(int bool)": 5, "tuple": 0, "if": 0} {
		x, f := syntax.Sort(s)
		faultAt(t, s, f, api.ErrSyntax, off)
		if !alike(x, api.Sort{}) {
			t.Errorf("Sort(%q): with a fault %+v", s, x)
		}
		holdSort(t, s)
	}
}

func TestNestsOfSorts(t *testing.T) {
	for _, n := range []struct{ ahead, behind string }{{"list ", ""}, {"set ", ""}, {"(", ",)"}, {"(int, ", ")"}, {"(int, ", ", bool)"}} {
		s := strings.Repeat(n.ahead, 63) + "int" + strings.Repeat(n.behind, 63)
		if _, f := syntax.Sort(s); f != (api.Fault{}) {
			t.Errorf("%q: %+v", s, f)
		}
		for _, inner := range []string{"int", "x", ";"} {
			s = strings.Repeat(n.ahead, 64) + inner
			_, f := syntax.Sort(s)
			off := 64 * len(n.ahead)
			if n.ahead == "(int, " { // the int of the last one lies as deep
				off = 63*len(n.ahead) + 1
			}
			faultAt(t, s, f, api.ErrNest, off)
			holdSort(t, s)
		}
	}
	for _, s := range []string{strings.Repeat("list ", 64), strings.Repeat("(", 64) + ")" + strings.Repeat(",)", 63), strings.Repeat("list ", 63) + "()", strings.Repeat("list ", 63) + "x"} {
		holdSort(t, s)
	}
}

func TestEveryShortSort(t *testing.T) {
	for s := range everyRow("sort", 7, "int", "list", "(", ")", ",") {
		holdSort(t, s)
	}
	for s := range everyRow("sort", 3, pool...) {
		holdSort(t, s)
	}
}

func TestSortsByChance(t *testing.T) {
	rnd := rand.New(rand.NewSource(11))
	for range 3000 {
		l := wordsOf(rnd, "sort", 1+rnd.Intn(7))
		holdSort(t, spaced(rnd, l))
		for range 2 {
			l = spoilt(rnd, l)
			holdSort(t, spaced(rnd, l))
		}
	}
}
