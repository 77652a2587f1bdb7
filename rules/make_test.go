package rules_test

import (
	"fmt"
	"iter"
	"math/rand"
	"slices"
	"strings"
	"testing"

	"sextant/api"
	"sextant/rules"
	"sextant/syntax"
	"sextant/value"
)

func integer(n int64) api.Value { return api.Value{Kind: api.KInt, Int: n} }

func symbol(s string) api.Value { return api.Value{Kind: api.KSym, Text: s} }

func rowOf(kind api.Kind, items ...api.Value) api.Value { return api.Value{Kind: kind, Items: items} }

// loop makes a list that is an item of itself.
func loop() api.Value {
	v := rowOf(api.KList, integer(1))
	v.Items[0] = v
	return v
}

// cut copies a value, and leaves out what lies deeper than any right one: so that what lies within itself can be written.
func cut(v api.Value, levels int) api.Value {
	items := v.Items
	v.Items = nil
	for _, item := range items {
		if levels > 0 {
			v.Items = append(v.Items, cut(item, levels-1))
		}
	}
	return v
}

// shown writes all that is handed in.
func shown(a api.Auto, state api.Value, class []api.Ask) string {
	class = slices.Clone(class)
	for i, c := range class {
		class[i].Arg = cut(c.Arg, 20)
	}
	return fmt.Sprintf("%+v, %+v, %+v", a, cut(state, 20), class)
}

// shownOutcome writes whatever outcome there may be.
func shownOutcome(o api.Outcome) string {
	o.Answers, o.Next = slices.Clone(o.Answers), cut(o.Next, 20)
	for i, a := range o.Answers {
		o.Answers[i].Value = cut(a.Value, 20)
	}
	return fmt.Sprintf("%+v", o)
}

// autoOf reads the automaton that a text begins with.
func autoOf(t testing.TB, s string) api.Auto {
	t.Helper()
	spec, f := syntax.Parse(s)
	if f != (api.Fault{}) {
		t.Fatalf("%s: %+v", s, f)
	}
	return spec.Autos[0]
}

func valueOf(t testing.TB, s string) api.Value {
	t.Helper()
	v, f := value.Parse(s)
	if f != (api.Fault{}) {
		t.Fatalf("%q: %+v", s, f)
	}
	return v
}

// classOf reads calls, a semicolon between each two: the process, the operation, the argument.
func classOf(t testing.TB, s string) []api.Ask {
	t.Helper()
	var class []api.Ask
	for part := range strings.SplitSeq(s, ";") {
		if words := strings.Fields(part); len(words) > 0 {
			class = append(class, ask(words[0], words[1], valueOf(t, strings.Join(words[2:], " "))))
		}
	}
	return class
}

func ask(proc, op string, arg api.Value) api.Ask { return api.Ask{Proc: proc, Op: op, Arg: arg} }

// said writes outcomes: "p 1, q 2 -> 0; ...".
func said(t testing.TB, l []api.Outcome) string {
	t.Helper()
	var outcomes []string
	for _, o := range l {
		var answers []string
		for _, a := range o.Answers {
			answers = append(answers, a.Proc+" "+printed(t, a.Value))
		}
		outcomes = append(outcomes, strings.Join(answers, ", ")+" -> "+printed(t, o.Next))
	}
	return strings.Join(outcomes, "; ")
}

func printed(t testing.TB, v api.Value) string {
	t.Helper()
	s, errno := value.Print(v)
	if errno != api.OK {
		t.Fatalf("%+v: %d", v, errno)
	}
	return s
}

// looked answers what Outcomes does, and fails if that is not what the model says, if Right says otherwise, or if a call changes what it is handed, or answers memory that is not new.
func looked(t testing.TB, a api.Auto, state api.Value, class []api.Ask) ([]api.Outcome, api.Errno) {
	t.Helper()
	before := shown(a, state, class)
	got, errno := rules.Outcomes(a, state, class)
	right := rules.Right(a, state, class)
	if after := shown(a, state, class); after != before {
		t.Fatalf("%s has become %s", before, after)
	}
	fresh(t, listsOfOutcomes(got), listsHandedIn(a, state, class))
	lists := map[*api.Answer]bool{}
	for _, o := range got {
		if lists[&o.Answers[0]] {
			t.Fatalf("answers that are another outcome's: %+v", o)
		}
		lists[&o.Answers[0]] = true
	}
	want, wanted := modelOutcomes(a, state, class)
	if errno != wanted || !slices.EqualFunc(got, want, sameOutcome) {
		t.Fatalf("Outcomes(%s): %+v, %d; want %+v, %d", before, got, errno, want, wanted)
	}
	if right != (wanted == api.OK) {
		t.Fatalf("Right(%s): %t", before, right)
	}
	return got, errno
}

// holds fails unless the outcomes are these.
func holds(t *testing.T, a api.Auto, state, class, want string) {
	t.Helper()
	got, errno := looked(t, a, valueOf(t, state), classOf(t, class))
	if s := said(t, got); errno != api.OK || s != want {
		t.Errorf("%s, %s: %q, %d; want %q", state, class, s, errno, want)
	}
}

// fresh fails if two lists of an answer are one, or one is of what was handed in.
func fresh(t testing.TB, answer, given iter.Seq[*api.Value]) {
	t.Helper()
	seen := map[*api.Value]bool{}
	for first := range given {
		seen[first] = true
	}
	for first := range answer {
		if seen[first] {
			t.Fatalf("a list that is another's, of %+v", *first)
		}
		seen[first] = true
	}
}

// listsOfValues goes through the lists of items within values, and tells where each begins. (A value's own list is another one wherever the value stands, but for loops.)
func listsOfValues(l []api.Value) iter.Seq[*api.Value] {
	return func(yield func(*api.Value) bool) {
		var down func(v api.Value, deep int) bool
		down = func(v api.Value, deep int) bool {
			if len(v.Items) == 0 || deep > 20 {
				return true
			}
			return yield(&v.Items[0]) && !slices.ContainsFunc(v.Items, func(item api.Value) bool { return !down(item, deep+1) })
		}
		for _, v := range l {
			if !down(v, 0) {
				return
			}
		}
	}
}

func listsOfOutcomes(l []api.Outcome) iter.Seq[*api.Value] {
	var values []api.Value
	for _, o := range l {
		for _, a := range o.Answers {
			values = append(values, a.Value)
		}
		values = append(values, o.Next)
	}
	return listsOfValues(values)
}

func listsHandedIn(a api.Auto, state api.Value, class []api.Ask) iter.Seq[*api.Value] {
	values := []api.Value{state}
	for _, c := range class {
		values = append(values, c.Arg)
	}
	for e := range expressions(a) {
		for part := range syntax.Walk(e) {
			values = append(values, part.Value)
		}
	}
	return listsOfValues(values)
}

func expressions(a api.Auto) iter.Seq[api.Expr] {
	return func(yield func(api.Expr) bool) {
		all := []api.Expr{a.Start}
		for _, r := range a.Rules {
			for _, g := range r.Gens {
				all = append(all, g.From)
			}
			all = append(all, r.When, r.Give, r.Next)
		}
		slices.Values(all)(yield)
	}
}

func sameValue(a, b api.Value) bool {
	return a.Kind == b.Kind && a.Int == b.Int && a.Im == b.Im && a.Text == b.Text && slices.EqualFunc(a.Items, b.Items, sameValue)
}

func sameOutcome(a, b api.Outcome) bool {
	return sameValue(a.Next, b.Next) && slices.EqualFunc(a.Answers, b.Answers, func(x, y api.Answer) bool {
		return x.Proc == y.Proc && sameValue(x.Value, y.Value)
	})
}

func pick[T any](rnd *rand.Rand, l []T) T { return l[rnd.Intn(len(l))] }
