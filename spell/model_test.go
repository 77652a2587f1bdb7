package spell_test

import (
	"fmt"
	"math/rand"
	"regexp"
	"strings"
	"testing"

	"sextant/api"
	"sextant/syntax"
	"sextant/token"
	"sextant/value"
)

// The text of an expression, found in another way than by levels: every expression in it is put in round brackets, and then, from the innermost ones on, all brackets are taken away without which the text is read as the same.

// draft is a text with brackets that may be taken away: a piece that is one has its number, from 1 on.
type draft struct {
	pieces  []string
	numbers []int
	last    int
}

func (d *draft) put(pieces ...string) {
	for _, p := range pieces {
		d.pieces = append(d.pieces, p)
		d.numbers = append(d.numbers, 0)
	}
}

func (d *draft) bracket(mark string, number int) {
	d.pieces = append(d.pieces, mark)
	d.numbers = append(d.numbers, number)
}

// text answers the text with as many of each brackets as times says.
func (d *draft) text(times func(number int) int) string {
	var b strings.Builder
	for i, p := range d.pieces {
		n := 1
		if d.numbers[i] > 0 {
			n = times(d.numbers[i])
		}
		b.WriteString(strings.Repeat(p, n))
	}
	return b.String()
}

func (d *draft) items(items []api.Expr) {
	for i, x := range items {
		if i > 0 {
			d.put(", ")
		}
		d.expr(x)
	}
}

// expr numbers brackets from the inside: those of what lies in others are less.
func (d *draft) expr(e api.Expr) {
	open := len(d.pieces)
	d.bracket("(", 0)
	d.inner(e)
	d.last++
	d.numbers[open] = d.last
	d.bracket(")", d.last)
}

func (d *draft) inner(e api.Expr) {
	words := func(words ...string) {
		for i, w := range words {
			d.put(w)
			if i < len(e.Items) {
				d.expr(e.Items[i])
			}
		}
	}
	switch e.Kind {
	case api.ELit:
		s, _ := value.Print(e.Value)
		if e.Value.Kind == api.KSym {
			s = "#" + s
		}
		d.put(s)
	case api.EName:
		d.put(e.Name)
	case api.ETuple, api.EList, api.ESet, api.ECall:
		marks := map[api.ExprKind]string{api.ETuple: "()", api.EList: "[]", api.ESet: "{}", api.ECall: "()"}[e.Kind]
		d.put(e.Op + marks[:1])
		d.items(e.Items)
		if e.Kind == api.ETuple && len(e.Items) == 1 {
			d.put(",")
		}
		d.put(marks[1:])
	case api.EUnary:
		words(map[string]string{"-": "-", "not": "not "}[e.Op])
	case api.EBin:
		words("", " "+e.Op+" ")
	case api.EIf:
		words("if ", " then ", " else ")
	case api.ELet:
		words("let "+e.Name+" = ", " do ")
	case api.EFold:
		words("fold "+e.Name+", "+e.Also+" over ", " from ", " with ")
	case api.EField:
		words("", fmt.Sprint(".", e.Value.Int))
	}
}

func drafted(e api.Expr) *draft {
	d := new(draft)
	d.expr(e)
	return d
}

// modelText answers the text of an expression that has one, even with all brackets.
func modelText(e api.Expr) string {
	d := drafted(e)
	gone := map[int]bool{}
	written := func() string {
		return d.text(func(n int) int {
			if gone[n] {
				return 0
			}
			return 1
		})
	}
	for n := 1; n <= d.last; n++ {
		gone[n] = true
		if back, f := syntax.Expr(written()); f.Code != api.OK || !syntax.SameExpr(back, e) {
			delete(gone, n)
		}
	}
	return written()
}

// wild answers a text of an expression with more brackets than are needed, by chance.
func wild(rnd *rand.Rand, e api.Expr) string {
	d := drafted(e)
	times := make([]int, d.last+1)
	for n := range times {
		times[n] = 1 + rnd.Intn(3)/2
	}
	return d.text(func(n int) int { return times[n] })
}

// spaced answers a text with other blanks and comments between its tokens.
func spaced(t testing.TB, rnd *rand.Rand, s string) string {
	t.Helper()
	gaps := []string{" ", " ", "\n", "\t", "\r\n", "  ", " // λ x ( \n", " //\n", "\n\n"}
	l, f := token.Scan(s)
	if f.Code != api.OK {
		t.Fatal(s, f)
	}
	var b strings.Builder
	for _, x := range l {
		w, _ := token.Spell(x)
		b.WriteString(pick(rnd, gaps) + w)
	}
	return b.String()
}

// valueWords finds Gaussian integers and names in layer 4's text of a value.
var valueWords = regexp.MustCompile(`(-?[0-9]+)([+-][0-9]+)i|[\pL_][\pL_0-9']*`)

// modelValue turns layer 4's text of a right value into a row's.
func modelValue(t testing.TB, v api.Value) string {
	t.Helper()
	s, e := value.Print(v)
	if e != api.OK {
		t.Fatal(v, e)
	}
	return valueWords.ReplaceAllStringFunc(s, func(w string) string {
		parts := valueWords.FindStringSubmatch(w)
		switch {
		case parts[1] != "":
			return "gauss(" + parts[1] + ", " + strings.TrimPrefix(parts[2], "+") + ")"
		case w == "true" || w == "false":
			return w
		}
		return "#" + w
	})
}

// modelSpec lays a specification out as the chapter says, with expressions and sorts by the functions handed in.
func modelSpec(t testing.TB, s api.Spec, expr func(api.Expr) string, sort func(api.Sort) string) string {
	t.Helper()
	var b strings.Builder
	modes := []string{"", "linear", "set", "interval"}
	for _, a := range s.Autos {
		kind := map[bool]string{false: "automaton", true: "table"}[a.Table]
		fmt.Fprintf(&b, "%s %s %s arg %s reply %s state %s start %s {\n", kind, a.Name, modes[a.Mode], sort(a.Arg), sort(a.Reply), sort(a.State), expr(a.Start))
		for _, r := range a.Rules {
			var gens []string
			for _, g := range r.Gens {
				gens = append(gens, g.Name+" in "+expr(g.From))
			}
			b.WriteString("  rule " + r.Name)
			if len(gens) > 0 {
				b.WriteString(" for " + strings.Join(gens, ", "))
			}
			if fmt.Sprintf("%v", r.When) != fmt.Sprintf("%v", lit(boolean(1))) {
				b.WriteString(" when " + expr(r.When))
			}
			b.WriteString(" give " + expr(r.Give) + " next " + expr(r.Next) + ";\n")
		}
		for _, r := range a.Rows {
			var calls, replies []string
			for _, c := range r.Calls {
				calls = append(calls, c.Who+" "+c.Op+" "+modelValue(t, c.Arg))
			}
			for _, c := range r.Replies {
				replies = append(replies, c.Who+" "+modelValue(t, c.Value))
			}
			fmt.Fprintf(&b, "  row %s { %s } gives { %s } next %s;\n", modelValue(t, r.From), strings.Join(calls, ", "), strings.Join(replies, ", "), modelValue(t, r.To))
		}
		b.WriteString("}\n")
	}
	for _, x := range s.Binds {
		b.WriteString("object " + x.Object + " is " + x.Auto + ";\n")
	}
	return b.String()
}
