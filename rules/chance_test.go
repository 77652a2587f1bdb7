package rules_test

import (
	"fmt"
	"math/rand"
	"slices"
	"strings"
	"testing"

	"sextant/api"
	"sextant/rules"
	"sextant/sorts"
)

// Automata by chance: P15.2 against the model, and P15.4.

// scope is which names mean what in a rule that is being made: integers, symbols, lists of integers, calls.
type scope struct {
	rnd                       *rand.Rand
	ints, symbols, rows, asks []string
}

func (s *scope) integer(deep int) string {
	if deep == 0 || s.rnd.Intn(3) == 0 {
		return pick(s.rnd, append([]string{"0", "1", "2", "3", "-1"}, s.ints...))
	}
	a, b := s.integer(deep-1), s.integer(deep-1)
	return pick(s.rnd, []string{
		fmt.Sprintf("(%s + %s)", a, b),
		fmt.Sprintf("(%s / %s)", a, b),
		fmt.Sprintf("(%s %% %s)", a, b),
		fmt.Sprintf("(if %s then %s else %s)", s.truth(deep-1), a, b),
		fmt.Sprintf("(let k = %s do k * k)", a),
		fmt.Sprintf("head(%s)", s.list(deep-1)),
		fmt.Sprintf("size(%s)", s.list(deep-1)),
		fmt.Sprintf("(fold k, s over %s from %s with s + k)", s.list(deep-1), b),
	})
}

func (s *scope) list(deep int) string {
	if deep == 0 {
		return pick(s.rnd, append([]string{"[]", "[2, 1]"}, s.rows...))
	}
	a, b := s.integer(deep-1), s.integer(deep-1)
	return pick(s.rnd, []string{
		fmt.Sprintf("[%s]", a),
		fmt.Sprintf("[%s, %s]", a, b),
		fmt.Sprintf("range(%s, %s)", a, b),
		fmt.Sprintf("(%s + %s)", s.list(deep-1), s.list(deep-1)),
		fmt.Sprintf("tail(%s)", s.list(deep-1)),
		fmt.Sprintf("list({%s, %s})", a, b),
		fmt.Sprintf("(if %s then [] else [%s])", s.truth(deep-1), a),
	})
}

func (s *scope) truth(deep int) string {
	if deep == 0 {
		return pick(s.rnd, []string{"true", "true", "false"})
	}
	a, b := s.integer(deep-1), s.integer(deep-1)
	return pick(s.rnd, []string{
		fmt.Sprintf("(%s < %s)", a, b),
		fmt.Sprintf("(%s != %s)", a, b),
		fmt.Sprintf("(%s in %s)", a, s.list(deep-1)),
		fmt.Sprintf("(not %s)", s.truth(deep-1)),
		fmt.Sprintf("(%s == %s)", s.symbol(), s.symbol()),
		fmt.Sprintf("(%s or %s)", s.truth(deep-1), s.truth(deep-1)),
	})
}

func (s *scope) symbol() string {
	return pick(s.rnd, append([]string{"#f", "#p", "#q"}, s.symbols...))
}

// gen makes a generator, whose name hides what had it.
func (s *scope) gen() string {
	name := pick(s.rnd, []string{"x", "y", "z", "x", "y", "z", "state", "calls", "arg", "s"})
	from, kind := "", s.rnd.Intn(6)
	switch {
	case kind == 0 && slices.Contains(s.rows, "calls"):
		from = "{1, 5}"
	case kind <= 2 && len(s.asks) > 0 && s.asks[0] == "calls":
		from, kind = "calls", 1
	case kind == 3:
		from = fmt.Sprintf("[%s, %s]", s.symbol(), s.symbol())
	case kind == 4:
		from = fmt.Sprintf("{%s, %s}", s.list(1), s.list(1))
	default:
		from, kind = s.list(2), 5
	}
	isName := func(n string) bool { return n == name || strings.HasPrefix(n, name+".") }
	s.ints, s.symbols = slices.DeleteFunc(s.ints, isName), slices.DeleteFunc(s.symbols, isName)
	s.rows, s.asks = slices.DeleteFunc(s.rows, isName), slices.DeleteFunc(s.asks, isName)
	switch kind {
	case 1:
		s.ints, s.symbols = append(s.ints, name+".2"), append(s.symbols, name+".0", name+".1")
		s.asks = append(s.asks, name)
	case 3:
		s.symbols = append(s.symbols, name)
	case 4:
		s.rows = append(s.rows, name)
	default:
		s.ints = append(s.ints, name)
	}
	return name + " in " + from
}

// chanceRule makes a rule of a mode, whose sorts are all int.
func chanceRule(rnd *rand.Rand, mode string) string {
	s := &scope{rnd: rnd, ints: []string{"state"}, asks: []string{"calls"}}
	if mode == "linear" {
		s = &scope{rnd: rnd, ints: []string{"state", "arg"}, symbols: []string{"proc", "op"}}
	}
	var gens []string
	for range rnd.Intn(4) {
		gens = append(gens, s.gen())
	}
	rule := "rule r"
	if len(gens) > 0 {
		rule += " for " + strings.Join(gens, ", ")
	}
	if rnd.Intn(2) == 0 {
		rule += " when " + s.truth(2)
	}
	return rule + " give " + s.give(mode) + " next " + s.integer(2) + ";"
}

func (s *scope) give(mode string) string {
	n := s.integer(1)
	if mode == "linear" {
		return n
	}
	ways := []string{
		fmt.Sprintf("{(%s, %s)}", s.symbol(), n),
		fmt.Sprintf("{(%s, %s), (%s, %s)}", s.symbol(), n, s.symbol(), s.integer(1)),
		fmt.Sprintf("(if %s then {} else {(%s, %s)})", s.truth(1), s.symbol(), n),
	}
	if len(s.asks) > 0 && s.asks[0] == "calls" {
		for range 4 {
			ways = append(ways, fmt.Sprintf("(fold c, s over calls from {} with s | {(c.0, c.2 + %s)})", n), fmt.Sprintf("(fold c, s over calls from {} with s | (if c.2 != %s then {(c.0, %s)} else {}))", n, n))
		}
	}
	return pick(s.rnd, ways)
}

func chanceAuto(t testing.TB, rnd *rand.Rand) api.Auto {
	mode := pick(rnd, []string{"linear", "set", "interval"})
	var rules []string
	for range rnd.Intn(4) {
		rules = append(rules, chanceRule(rnd, mode))
	}
	return ruled(t, mode, strings.Join(rules, " "))
}

func chanceClass(rnd *rand.Rand, mode api.Mode) []api.Ask {
	var class []api.Ask
	for _, p := range []string{"P", "p", "p1", "q", "é"} {
		if rnd.Intn(2) == 0 {
			class = append(class, ask(p, pick(rnd, []string{"f", "f", "g"}), integer(int64(rnd.Intn(4)))))
		}
	}
	switch {
	case len(class) == 0:
		return []api.Ask{ask("p", "f", integer(2))}
	case mode == api.MLinear:
		return class[:1]
	case rnd.Intn(2) == 0:
		return class[:min(2, len(class))]
	}
	return class
}

// spoilClass makes something wrong, or something else, of a class.
func spoilClass(rnd *rand.Rand, class []api.Ask) {
	i := rnd.Intn(len(class))
	switch rnd.Intn(4) {
	case 0:
		class[i].Proc = pick(rnd, []string{"", "true", "a", "z", "p p"})
	case 1:
		class[i].Op = pick(rnd, []string{"", "false", "f", "h", "f\xff"})
	case 2:
		class[i].Arg = pick(rnd, []api.Value{{}, loop(), integer(5), symbol("x")})
	case 3:
		j := rnd.Intn(len(class))
		class[i], class[j] = class[j], class[i]
	}
}

// spoilAuto makes something wrong, or something else, of an automaton.
func spoilAuto(rnd *rand.Rand, a *api.Auto) {
	switch rnd.Intn(8) {
	case 0:
		a.Table = true
	case 1:
		a.Mode = api.Mode(rnd.Intn(5))
	case 2:
		a.Arg = pick(rnd, []api.Sort{{}, {Kind: api.SSym}, a.Arg})
	case 3:
		a.State = pick(rnd, []api.Sort{{}, {Kind: api.SSym}, a.State})
	}
	if len(a.Rules) == 0 {
		return
	}
	r := &a.Rules[rnd.Intn(len(a.Rules))]
	switch rnd.Intn(8) {
	case 0:
		r.When = pick(rnd, []api.Expr{{}, r.Next})
	case 1:
		r.Next = pick(rnd, []api.Expr{{}, r.When})
	case 2:
		r.Give = pick(rnd, []api.Expr{{}, r.When, r.Next})
	case 3:
		if len(r.Gens) > 0 {
			r.Gens[0].Name = pick(rnd, []string{"", "x", "w"})
		}
	case 4:
		if len(r.Gens) > 0 {
			r.Gens[0].From = pick(rnd, []api.Expr{{}, r.When, r.Next})
		}
	}
}

func TestByChance(t *testing.T) {
	rnd := rand.New(rand.NewSource(15))
	counts := map[string]int{}
	for range 15000 {
		a := chanceAuto(t, rnd)
		class := chanceClass(rnd, a.Mode)
		if rnd.Intn(6) == 0 {
			spoilClass(rnd, class)
		}
		if rnd.Intn(6) == 0 {
			spoilAuto(rnd, &a)
		}
		got, errno := looked(t, a, pick(rnd, []api.Value{integer(0), integer(1), integer(3)}), class)
		counts[fmt.Sprint(a.Mode, errno, min(len(got), 3))]++
	}
	for _, mode := range []api.Mode{api.MLinear, api.MSet, api.MInterval} {
		for _, s := range []string{"0 0", "0 1", "0 2", "0 3", "2 0", "150 0"} {
			if s := fmt.Sprint(mode, " ", s); counts[s] < 50 {
				t.Errorf("%s: %d times", s, counts[s])
			}
		}
	}
}

func isAmong(l []api.Outcome, o api.Outcome) bool {
	_, ok := slices.BinarySearchFunc(l, o, rules.Compare)
	return ok
}

func TestWhatFollows(t *testing.T) {
	rnd := rand.New(rand.NewSource(154))
	for range 3000 {
		a := chanceAuto(t, rnd)
		if f := sorts.Auto(a); f != (api.Fault{}) {
			continue
		}
		state, class := integer(int64(rnd.Intn(4))), chanceClass(rnd, a.Mode)
		got, errno := looked(t, a, state, class)
		if errno != api.OK {
			t.Fatal(errno)
		}
		for i, o := range got {
			holdOutcome(t, a, class, o)
			if i > 0 && rules.Compare(got[i-1], o) != -1 {
				t.Fatalf("%+v ahead of %+v", got[i-1], o)
			}
		}
		b := a
		b.Rules = nil
		for _, i := range rnd.Perm(len(a.Rules)) {
			b.Rules = append(b.Rules, a.Rules[i])
		}
		if other, _ := looked(t, b, state, class); !slices.EqualFunc(got, other, sameOutcome) {
			t.Fatalf("%+v: %+v; %+v: %+v", a, got, b, other)
		}
		more := ruled(t, []string{"", "linear", "set", "interval"}[a.Mode], chanceRule(rnd, []string{"", "linear", "set", "interval"}[a.Mode]))
		b.Rules = slices.Insert(b.Rules, rnd.Intn(len(b.Rules)+1), more.Rules[0])
		if other, errno := looked(t, b, state, class); errno == api.OK {
			for _, o := range got {
				if !isAmong(other, o) {
					t.Fatalf("%+v: %+v; with a rule more %+v", b, got, other)
				}
			}
		}
	}
}

// holdOutcome fails unless an outcome is of the automaton's sorts, and answers just those whom it may.
func holdOutcome(t *testing.T, a api.Auto, class []api.Ask, o api.Outcome) {
	t.Helper()
	var asking, answered []string
	for _, c := range class {
		asking = append(asking, c.Proc)
	}
	for i, r := range o.Answers {
		answered = append(answered, r.Proc)
		if !sorts.Fits(a.Reply, r.Value) || i > 0 && answered[i-1] >= r.Proc {
			t.Fatalf("%+v of %+v", r, class)
		}
	}
	if !sorts.Fits(a.State, o.Next) || len(answered) == 0 || a.Mode != api.MInterval && !slices.Equal(asking, answered) {
		t.Fatalf("%+v of %+v", o, class)
	}
}
