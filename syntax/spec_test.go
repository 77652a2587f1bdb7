package syntax_test

import (
	"fmt"
	"iter"
	"math/rand"
	"strings"
	"testing"

	"sextant/api"
	"sextant/syntax"
	"sextant/value"
)

const (
	headText  = "linear arg int reply int state int start 0"
	exampleA  = "automaton A linear arg int reply int state int start 0 { rule r give {(0, 1)} next state + 1; } object x is A;"
	exampleT  = "table T set arg int reply bool state list int start [] { row [] { a enq 1, b deq -2 } gives { a true, b false } next [-1]; row [-1] { a enq #x } gives { a gauss(-1, 2) } next (); }"
	exampleAT = "object b is B; " + exampleA + "\nautomaton B interval arg (int,) reply set symbol state gauss start gauss(0, 1) { rule r for x in calls, y in [x] when x.0 == y give {} next state; rule s when true give 1 next 2; }\n" + exampleT + " automaton C set arg () reply () state () start () { }"
)

// inRow puts a value into a table, and tells where it begins.
func inRow(v string) (string, int) {
	ahead := "table T " + headText + " { row "
	return ahead + v + " { a b 1 } gives { a 2 } next 3; }", len(ahead)
}

// P10.2

func TestParseOfExamples(t *testing.T) {
	if s, f := syntax.Parse(""); f != (api.Fault{}) || len(s.Autos) != 0 || len(s.Binds) != 0 {
		t.Error("the empty text:", s, f)
	}
	if s, f := syntax.Parse(" // nothing\n"); f != (api.Fault{}) || len(s.Autos) != 0 || len(s.Binds) != 0 {
		t.Error("a text without tokens:", s, f)
	}
	at := func(w string) api.Spot {
		off := strings.Index(exampleA, w)
		return api.Spot{Off: off, Line: 1, Col: off + 1}
	}
	s := specOf(t, exampleA)
	if len(s.Autos) != 1 || len(s.Binds) != 1 || s.Binds[0] != (api.Bind{Object: "x", Auto: "A", At: at("object")}) {
		t.Fatalf("%+v", s)
	}
	a := s.Autos[0]
	if a.Name != "A" || a.At != at("automaton") || a.Mode != api.MLinear || a.Table || len(a.Rows) != 0 || len(a.Rules) != 1 || a.Arg.Kind != api.SInt {
		t.Fatalf("%+v", a)
	}
	r := a.Rules[0]
	when := api.Expr{Kind: api.ELit, At: at("give"), Value: api.Value{Kind: api.KBool, Int: 1}}
	if r.Name != "r" || r.At != at("rule") || len(r.Gens) != 0 || !alike(r.When, when) || r.Give.At != at("{(0") || r.Next.At != at("+") {
		t.Errorf("%+v", r)
	}
	for _, s := range []string{exampleA, exampleT, exampleAT} {
		holdParse(t, s)
	}
}

func TestModesAndHeads(t *testing.T) {
	for mode, want := range map[string]api.Mode{"linear": api.MLinear, "set": api.MSet, "interval": api.MInterval} {
		for _, word := range []string{"automaton", "table"} {
			s := specOf(t, word+" N "+mode+" arg int reply bool state symbol start #a { }")
			a := s.Autos[0]
			if a.Mode != want || a.Table != (word == "table") || a.Arg.Kind != api.SInt || a.Reply.Kind != api.SBool || a.State.Kind != api.SSym || !alike(unplaced(a.Start), symbol("a")) {
				t.Errorf("%+v", a)
			}
		}
	}
}

func TestOrderOfAutosAndBinds(t *testing.T) {
	s := specOf(t, exampleAT)
	var got []string
	for _, a := range s.Autos {
		got = append(got, a.Name)
	}
	for _, b := range s.Binds {
		got = append(got, b.Object+b.Auto)
	}
	if fmt.Sprint(got) != "[A B T C bB xA]" {
		t.Error(got)
	}
}

func TestGenerators(t *testing.T) {
	s := specOf(t, "automaton A set arg int reply int state int start 0 {\n rule r for x in calls, y in x in z when false give 1 next 2; }")
	r := s.Autos[0].Rules[0]
	if len(r.Gens) != 2 || r.Gens[0].Name != "x" || r.Gens[0].At != (api.Spot{Off: 66, Line: 2, Col: 13}) || !alike(unplaced(r.Gens[0].From), name("calls")) {
		t.Errorf("%+v", r)
	}
	if g := r.Gens[1]; g.Name != "y" || g.At.Col != 25 || !alike(unplaced(g.From), pair(name("x"), "in", name("z"))) || !alike(unplaced(r.When), truth(0)) {
		t.Errorf("%+v", r)
	}
}

func TestValuesOfRows(t *testing.T) {
	v := func(s string) api.Value {
		x, f := value.Parse(s)
		if f.Code != api.OK {
			t.Fatal(s, f)
		}
		return x
	}
	for s, want := range map[string]api.Value{
		"0": v("0"), "-0": v("0"), "- 7": v("-7"), "9223372036854775807": v("9223372036854775807"), "-9223372036854775807": v("-9223372036854775807"), "#a": v("a"), "#if": v("if"), "true": v("true"), "false": v("false"),
		"gauss(1, 2)": v("1+2i"), "gauss(-1, -0)": v("-1+0i"), "gauss ( - 1048576 , 1048576 )": v("-1048576+1048576i"), "gauss(0, -3)": v("0-3i"),
		"()": v("()"), "(1,)": v("(1,)"), "(1, 2)": v("(1, 2)"), "(1, 2, 3)": v("(1, 2, 3)"), "[]": v("[]"), "[2, 1, 2]": v("[2, 1, 2]"), "{}": v("{}"), "{3, 1, 3}": v("{1, 3}"), "{#b, 2, true, #a, 1}": v("{true, 1, 2, a, b}"),
		"[{2, 1}, {1, 2}]": v("[{1, 2}, {1, 2}]"), "{{2, 1}, {1, 2}, {}}": v("{{}, {1, 2}}"), "{gauss(1, 1), gauss(1, 1)}": v("{1+1i}"), "(((1,),),)": v("(((1,),),)"),
		strings.Repeat("[", 16) + strings.Repeat("]", 16): v(strings.Repeat("[", 16) + strings.Repeat("]", 16)),
	} {
		text, _ := inRow(s)
		if x := specOf(t, text); !alike(x.Autos[0].Rows[0].From, want) || value.Check(x.Autos[0].Rows[0].From) != api.OK {
			t.Errorf("%q: %+v, want %+v", s, x.Autos[0].Rows[0].From, want)
		}
		holdParse(t, text)
		x := specOf(t, "table T "+headText+" { row 0 { p q "+s+" } gives { r "+s+", s "+s+" } next "+s+"; }")
		if r := x.Autos[0].Rows[0]; !alike(r, api.Row{At: r.At, From: v("0"), Calls: []api.RowCall{{Who: "p", Op: "q", Arg: want}}, Replies: []api.RowReply{{Who: "r", Value: want}, {Who: "s", Value: want}}, To: want}) {
			t.Errorf("%q: %+v", s, r)
		}
	}
}

func TestFaultsOfValues(t *testing.T) {
	for s, off := range map[string]int{
		"x": 0, "-": 2, "- #a": 2, "--1": 1, "-gauss(1, 2)": 1, "(1)": 2, "(1 2)": 3, "(1, 2,)": 6, "(,)": 1, "[1,]": 3, "[,]": 1, "{1,}": 3, "[1 2]": 3, "[1)": 2, "gauss": 6, "gauss 1": 6, "gauss()": 6, "gauss(1)": 7, "gauss(1, 2, 3)": 10, "gauss(1, #a)": 9, "gauss(- -1, 2)": 8, "gauss(1, 2": 11,
		"1 + 2": 2, "1.0": 1, "not true": 0, "if": 0, "f(1)": 0, "(1 + 2,)": 3, "true(": 4, "gauss((1), 2)": 6, "+1": 0, "": 0, "]": 0,
		"gauss(2000000, ;": 15, "[gauss(1, 2000000] ;": 17,
	} {
		text, at := inRow(s)
		if s == "" { // the brace of the calls is taken for a set's
			text, at = inRow(";")
		}
		x, f := syntax.Parse(text)
		faultAt(t, text, f, api.ErrSyntax, at+off)
		if !alike(x, api.Spec{}) {
			t.Errorf("Parse(%q): with a fault %+v", text, x)
		}
		holdParse(t, text)
	}
}

func TestValuesAboveLimits(t *testing.T) {
	ones := func(n int) string { return strings.Repeat("1, ", n-1) + "1" }
	lists := func(n int, inner string) string { return strings.Repeat("[", n) + inner + strings.Repeat("]", n) }
	other := make([]string, 5000)
	for i := range other {
		other[i] = fmt.Sprint(i)
	}
	for _, c := range []struct {
		s    string
		code api.Errno
		off  int
	}{
		{lists(16, ""), 0, 0}, {lists(15, "1"), 0, 0}, {lists(17, ""), 42, 0}, {lists(16, "1"), 42, 0}, {"{" + lists(16, "") + "}", 42, 0}, {"(" + lists(16, "") + ",)", 42, 0},
		{"[" + ones(4095) + "]", 0, 0}, {"[" + ones(4096) + "]", 42, 0}, {"(" + ones(4095) + ")", 0, 0}, {"(" + ones(4096) + ")", 42, 0},
		{"{" + ones(5000) + "}", 0, 0}, {"[{" + ones(5000) + "}]", 0, 0}, {"{" + strings.Join(other[:4095], ", ") + "}", 0, 0}, {"{" + strings.Join(other[:4096], ", ") + "}", 42, 0},
		{"gauss(1048577, 0)", 42, 0}, {"gauss(0, 1048577)", 42, 0}, {"gauss(-1048577, 0)", 42, 0}, {"gauss(0, -1048577)", 42, 0}, {"gauss(9223372036854775807, 0)", 42, 0}, {"[1, gauss(0, -1048577)]", 42, 4}, {"{{gauss(1048577, 1)}}", 42, 2},
		// It is told at the row's value, not at an item of it that is above the limits itself,
		{"[1, " + lists(17, "") + "]", 42, 0}, {"{{" + lists(17, "") + ", 1}, 1}", 42, 0}, {lists(64, ""), 42, 0}, {lists(63, "1"), 42, 0}, {"([" + ones(5000) + "], 1)", 42, 0},
		// and when it has been read: ahead of what stands behind it, and behind what is wrong within it;
		{lists(17, "") + ", 1", 42, 0}, {lists(17, ";"), 100, 17}, {"[" + lists(17, "") + " 1]", 100, 36}, {"[" + ones(4096) + ";", 100, len(ones(4096)) + 1},
		// but of a Gaussian integer at its own place, when it has been read.
		{"[gauss(1048577, 0) 1]", 42, 1}, {"[gauss(0, 0) 1]", 100, 13}, {"[gauss(1048577, 0 1", 100, 18}, {"[" + lists(17, "") + ", gauss(1048577, 0)]", 42, 37},
		{lists(64, "1"), 101, 64}, {lists(64, ";"), 101, 64}, {strings.Repeat("[", 64) + "{", 101, 64}, {lists(65, ""), 101, 64}, {strings.Repeat("{", 64) + "1", 101, 64}, {strings.Repeat("(", 64) + "1", 101, 64}, {strings.Repeat("(1, ", 64), 101, 63*4 + 1}, {strings.Repeat("{", 64) + strings.Repeat("}", 64), 42, 0},
	} {
		text, at := inRow(c.s)
		_, f := syntax.Parse(text)
		if c.code == 0 {
			if f != (api.Fault{}) {
				t.Errorf("%.40q: %+v", c.s, f)
			}
			continue
		}
		faultAt(t, text, f, c.code, at+c.off)
		if len(c.s) < 1000 {
			holdParse(t, text)
		}
	}
}

func TestFaultsOfSpecs(t *testing.T) {
	a := "automaton A " + headText
	row := "table T " + headText + " { row 0 "
	rule := a + " { rule r "
	for _, c := range []struct{ ahead, wrong string }{
		{"", "x"}, {"", ";"}, {"", "1"}, {"", "rule r"}, {"", "row"}, {"", "#object"}, {exampleA, "}"}, {exampleA, ";"}, {exampleA + " " + exampleT, "then"},
		{"object", ""}, {"object ", ";"}, {"object x ", "A"}, {"object x is ", ";"}, {"object x is A", ""}, {"object x is A ", "B"}, {"object x is A;", ";"}, {"object ", "1"}, {"object x is ", "#A"},
		{"automaton", ""}, {"automaton ", "{"}, {"automaton A ", "arg"}, {"automaton A", ""}, {"automaton A ", "list"}, {"automaton A linear ", "int"}, {"automaton A linear arg ", "x"}, {"automaton A linear arg int ", "state"}, {"automaton A linear arg int reply ", "state"},
		{"automaton A linear arg int reply int ", "start"}, {"automaton A linear arg int reply int state int ", "{"}, {"automaton A linear arg int reply int state int start ", "then"}, {a, ""}, {a + " ", ";"}, {a + " ", "}"}, {a + " {", ""}, {a + " { ", "row 0"}, {a + " { } ", "}"},
		{"table T " + headText + " { ", "rule r"}, {"table T " + headText + " { ", "object"}, {"table T " + headText + " ", "rule"},
		{a + " { ", "object x is A;"}, {a + " { rule", ""}, {a + " { rule ", ";"}, {rule, ";"}, {rule, "x"}, {rule, "next"}, {rule + "for ", "give"}, {rule + "for x ", "= 1"}, {rule + "for x in ", "give 1"}, {rule + "for x in s, ", "give"}, {rule + "for x in s ", "for"}, {rule + "for x in s ", "y"}, {rule + "for ", "(x"},
		{rule + "when ", "give"}, {rule + "when x ", "for"}, {rule + "when x ", "when"}, {rule + "give ", "next"}, {rule + "give x ", ";"}, {rule + "give x ", "when"}, {rule + "give x next ", ";"}, {rule + "give x next y", ""}, {rule + "give x next y ", "}"}, {rule + "give x next y; ", ";"}, {rule + "give x next y; ", "give"}, {rule + "give x next 1 == 2 ", "== 3"},
		{row, "1"}, {row, "}"}, {row + "{ ", "}"}, {row + "{ a ", "}"}, {row + "{ a b ", "}"}, {row + "{ a b ", "c"}, {row + "{ a b 1 ", ";"}, {row + "{ a b 1, ", "}"}, {row + "{ a b 1 } ", "give"}, {row + "{ a b 1 } gives ", "a"}, {row + "{ a b 1 } gives { ", "}"}, {row + "{ a b 1 } gives { a ", "}"}, {row + "{ a b 1 } gives { a ", "b 1"},
		{row + "{ a b 1 } gives { a 1 ", "next"}, {row + "{ a b 1 } gives { a 1, ", "}"}, {row + "{ a b 1 } gives { a 1 } ", ";"}, {row + "{ a b 1 } gives { a 1 } next ", ";"}, {row + "{ a b 1 } gives { a 1 } next 0", ""}, {row + "{ a b 1 } gives { a 1 } next 0 ", "}"}, {row + "{ ", "1 b"},
	} {
		s := c.ahead + c.wrong
		x, f := syntax.Parse(s)
		faultAt(t, s, f, api.ErrSyntax, len(c.ahead))
		if !alike(x, api.Spec{}) {
			t.Errorf("Parse(%q): with a fault %+v", s, x)
		}
		holdParse(t, s)
	}
}

// Each part of a specification counts anew how many lie within one another.
func TestNestsOfSpecs(t *testing.T) {
	round := func(n int) string { return strings.Repeat("(", n) + "1" + strings.Repeat(")", n) }
	spec := func(sort, expr int) string {
		e, x := round(expr), strings.Repeat("list ", sort)+"int"
		return "automaton A set arg " + x + " reply " + x + " state " + x + " start " + e + " { rule r for a in " + e + ", b in " + e + " when " + e + " give " + e + " next " + e + "; rule s give " + e + " next " + e + "; }"
	}
	if _, f := syntax.Parse(spec(63, 63)); f != (api.Fault{}) {
		t.Error("63 lie within one another:", f)
	}
	s := spec(64, 63)
	_, f := syntax.Parse(s)
	faultAt(t, s, f, api.ErrNest, strings.Index(s, "int"))
	s = spec(63, 64)
	_, f = syntax.Parse(s)
	faultAt(t, s, f, api.ErrNest, strings.Index(s, "1"))
	// An expression at each of its places is too deep alone.
	whole := spec(1, 0)
	for i := range whole {
		if whole[i] == '1' {
			s := whole[:i] + round(64) + whole[i+1:]
			_, f := syntax.Parse(s)
			faultAt(t, s, f, api.ErrNest, i+64)
		}
	}
}

func TestEveryShortSpec(t *testing.T) {
	for s := range everyRow("spec", 6, "object", "is", ";", "x", "automaton") {
		holdParse(t, s)
	}
	for s := range everyRow("spec", 2, pool...) {
		holdParse(t, s)
	}
	for ahead, words := range map[string]string{
		"automaton A " + headText + " { rule r ":                                  "for x in , when give next ; } 1",
		"table T " + headText + " { row 0 { a b 1 ":                               "a b 1 , } gives { next ;",
		"table T " + headText + " { row ":                                         "gauss ( - 1 , ) { } #a",
		"table T " + headText + " { row 0 { a b 1 } gives { a 1 } next 0 ; ":      "row 0 rule } object",
		"automaton A linear arg int reply int state int start 0 { rule r give 1 ": "next 1 ; rule r }",
	} {
		for s := range everyFour(ahead, strings.Fields(words)) {
			holdParse(t, s)
		}
	}
}

// everyFour goes through all texts with four of these words behind what stands ahead.
func everyFour(ahead string, words []string) iter.Seq[string] {
	return func(yield func(string) bool) {
		for i := range len(words) * len(words) * len(words) * len(words) {
			s := ahead
			for range 4 {
				s += words[i%len(words)] + " "
				i /= len(words)
			}
			if !yield(s) {
				return
			}
		}
	}
}

func TestSpecsByChance(t *testing.T) {
	rnd := rand.New(rand.NewSource(12))
	for range 700 {
		l := wordsOf(rnd, "spec", 1+rnd.Intn(3))
		holdParse(t, spaced(rnd, l))
		for range 3 {
			l = spoilt(rnd, l)
			holdParse(t, spaced(rnd, l))
		}
	}
}

// Whatever is handed in, nothing panics, and with a fault there is nothing else.
func TestAnyBytes(t *testing.T) {
	rnd := rand.New(rand.NewSource(13))
	for range 30000 {
		b := make([]byte, rnd.Intn(12))
		rnd.Read(b)
		texts := []string{string(b)}
		var l []string
		for range rnd.Intn(15) {
			l = append(l, pool[rnd.Intn(len(pool))])
		}
		texts = append(texts, strings.Join(l, " "))
		for _, s := range texts {
			e, f := syntax.Expr(s)
			x, g := syntax.Sort(s)
			p, h := syntax.Parse(s)
			for _, f := range []api.Fault{f, g, h} {
				if f.Code == api.OK && f != (api.Fault{}) || f.Code != api.OK && (f.At.Off < 0 || f.At.Off > len(s)) {
					t.Fatalf("%q: %+v", s, f)
				}
			}
			if f.Code != api.OK && !alike(e, api.Expr{}) || g.Code != api.OK && !alike(x, api.Sort{}) || h.Code != api.OK && !alike(p, api.Spec{}) {
				t.Fatalf("%q: something beside a fault", s)
			}
		}
	}
}

// R3: two answers share nothing, nor do two lists of one.
func TestAnswersAreTheCallersOwn(t *testing.T) {
	want := fmt.Sprintf("%+v", specOf(t, exampleAT))
	s := specOf(t, exampleAT)
	for i := range s.Autos {
		a := &s.Autos[i]
		for j := range a.Rules {
			for _, e := range []*api.Expr{&a.Rules[j].When, &a.Rules[j].Give, &a.Rules[j].Next} {
				spoilExpr(e)
			}
		}
		for j := range a.Rows {
			a.Rows[j].Calls[0].Who = "other"
			a.Rows[j].To.Kind = 0
		}
		spoilExpr(&a.Start)
		a.Name = "other"
	}
	if got := fmt.Sprintf("%+v", specOf(t, exampleAT)); got != want {
		t.Error("an answer that was changed changes the next one:", got)
	}
	e := exprOf(t, "f([1, 2], (3, 4), {5, 6}, g(7, 8), 9 + 10).0")
	before := fmt.Sprintf("%+v", e.Items[0].Items[1:])
	_ = append(e.Items[0].Items[0].Items, integer(99))
	_ = append(e.Items[0].Items[0].Items[:1], integer(99))
	if after := fmt.Sprintf("%+v", e.Items[0].Items[1:]); after != before {
		t.Error("two lists of one answer share memory:", after)
	}
}

func spoilExpr(e *api.Expr) {
	for i := range e.Items {
		spoilExpr(&e.Items[i])
	}
	*e = api.Expr{Kind: 99, Name: "spoilt"}
}

// Long texts are read, however many operators stand in a row.
func TestLongTexts(t *testing.T) {
	e := exprOf(t, strings.Repeat("x.0 - ", 60000)+"x")
	n := 0
	for range syntax.Walk(e) {
		n++
	}
	if n != 60000*3+1 || !syntax.SameExpr(e, e) {
		t.Error(n)
	}
	s := specOf(t, strings.Repeat("object x is A; ", 50000))
	if len(s.Binds) != 50000 {
		t.Error(len(s.Binds))
	}
}
