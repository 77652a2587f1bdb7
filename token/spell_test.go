package token_test

import (
	"math"
	"math/rand"
	"slices"
	"strings"
	"testing"

	"sextant/api"
	"sextant/token"
)

// places that a token may have: Spell and Join do not look at them.
func places() []api.Spot {
	return []api.Spot{{}, {Off: 3, Line: 2, Col: 1}, {Off: -1, Line: -7, Col: math.MinInt}, {Off: math.MaxInt}}
}

// holdSpell fails unless Spell answers what the model says, wherever the token stands.
func holdSpell(t *testing.T, x api.Token) {
	t.Helper()
	want, code := modelSpell(x)
	for _, x.At = range places() {
		if s, e := token.Spell(x); s != want || e != code {
			t.Fatalf("Spell(%+v) = %q, %d, want %q, %d", x, s, e, want, code)
		}
	}
}

// P9.2

func TestSpell(t *testing.T) {
	for _, x := range []struct {
		t    api.Token
		want string
	}{
		{end(), ""},
		{named("a"), "a"}, {named("x'"), "x'"}, {named("true"), "true"}, {named("false"), "false"}, {named("λ1"), "λ1"}, {named(strings.Repeat("λ", 32)), strings.Repeat("λ", 32)},
		{number(0), "0"}, {number(7), "7"}, {number(100), "100"}, {number(math.MaxInt64), "9223372036854775807"},
		{symbol("ok"), "#ok"}, {symbol("true'"), "#true'"}, {symbol("_"), "#_"}, {symbol(strings.Repeat("a", 32)), "#" + strings.Repeat("a", 32)},
		{mark("=="), "=="}, {mark("="), "="}, {mark(`\`), `\`}, {mark("/"), "/"}, {mark("("), "("},
	} {
		if s, e := token.Spell(x.t); s != x.want || e != api.OK {
			t.Errorf("Spell(%+v) = %q, %d", x.t, s, e)
		}
		holdSpell(t, x.t)
	}
	for _, m := range allMarks {
		if s, e := token.Spell(mark(m)); s != m || e != api.OK {
			t.Errorf("Spell of the mark %s: %q, %d", m, s, e)
		}
	}
}

func refused() []api.Token {
	return []api.Token{
		mark("=>"), mark(""), mark("!"), mark("//"), mark("// a"), mark("a"), mark("1"), mark("#"), mark("#a"), mark(" "), mark(" ="), mark("= "), mark("==="), mark("= ="), mark("()"), mark("\xff"), mark(":"), mark("=//"),
		number(-1), number(math.MinInt64), {Kind: api.TokenInt, Text: "1", Int: 1}, {Kind: api.TokenInt, Text: "1"}, {Kind: api.TokenInt, Text: " ", Int: 1},
		named(""), named("1"), named("1a"), named("'a"), named("a b"), named(" a"), named("a "), named("a\n"), named("a//"), named("//"), named("#a"), named("a#b"), named("("), named("a("), named("×"), named("a\xff"), named("\xce"), named(strings.Repeat("a", 33)), {Kind: api.TokenName, Text: "a", Int: 1},
		symbol(""), symbol("true"), symbol("false"), symbol("#a"), symbol("1"), symbol("'a"), symbol(" a"), symbol("a "), symbol("a b"), symbol("a#b"), symbol("//"), symbol("a//"), symbol("="), symbol("\xff"), symbol(strings.Repeat("λ", 33)), {Kind: api.TokenSym, Text: "a", Int: -1},
		{Kind: api.TokenMark, Text: "=", Int: 1},
		{Text: "a"}, {Int: 1}, {Int: -1}, {Text: " "}, {Text: "//"}, {Text: "!"}, {Text: "="},
		{Kind: 5}, {Kind: -1}, {Kind: 5, Text: "a"}, {Kind: -1, Text: "="}, {Kind: math.MaxInt}, {Kind: math.MinInt, Text: "a"},
	}
}

func TestSpellRefuses(t *testing.T) {
	for _, x := range refused() {
		if s, e := token.Spell(x); s != "" || e != api.ErrArg {
			t.Errorf("Spell(%+v) = %q, %d", x, s, e)
		}
		holdSpell(t, x)
	}
}

func TestSpellOfSmallTexts(t *testing.T) {
	for s := range everyText(3, "a", "Ω", "0", "'", "#", "/", "\n", " ", "=", "<", "!", "\xce", "(", "true") {
		for kind := api.TokenKind(-1); kind < 7; kind++ {
			for _, n := range []int64{0, 1, -1} {
				holdSpell(t, api.Token{Kind: kind, Text: s, Int: n})
			}
		}
	}
	for i := range 63 {
		for _, n := range []int64{1 << i, 1<<i - 1, -1 << i} {
			holdSpell(t, number(n))
		}
	}
}

// TestSpellTakesJustWhatScanGives: the words of the promise themselves.
func TestSpellTakesJustWhatScanGives(t *testing.T) {
	for s := range everyText(4, "a", "0", "1", "'", "#", "/", " ", "=", "!", "true") {
		l, _ := token.Scan(s)
		for _, x := range l {
			if _, e := token.Spell(x); e != api.OK {
				t.Fatalf("Spell(%+v), which Scan gives of %q: %d", x, s, e)
			}
		}
	}
}

func TestJoin(t *testing.T) {
	for _, x := range []struct {
		l    []api.Token
		want string
	}{
		{[]api.Token{named("a"), mark("=="), named("b")}, "a == b"},
		{nil, ""},
		{[]api.Token{}, ""},
		{[]api.Token{end()}, ""},
		{[]api.Token{named("a")}, "a"},
		{[]api.Token{named("a"), end()}, "a "},
		{[]api.Token{mark("/"), mark("/"), end()}, "/ / "},
		{[]api.Token{mark("-"), number(3), symbol("ok"), mark("!="), mark("=")}, "- 3 #ok != ="},
		{[]api.Token{named("a"), named("b"), number(0), number(0)}, "a b 0 0"},
	} {
		if s, e := token.Join(x.l); s != x.want || e != api.OK {
			t.Errorf("Join(%v) = %q, %d", x.l, s, e)
		}
	}
}

func TestJoinRefuses(t *testing.T) {
	a := named("a")
	for _, l := range [][]api.Token{{end(), a}, {end(), end()}, {a, end(), a}, {a, end(), end()}, {end(), a, end()}, {a, a, a, end(), a, end()}} {
		if s, e := token.Join(l); s != "" || e != api.ErrArg {
			t.Errorf("Join(%v) = %q, %d", l, s, e)
		}
	}
	for _, x := range refused() {
		for _, l := range [][]api.Token{{x}, {x, a}, {a, x}, {a, x, a}, {a, x, end()}} {
			if s, e := token.Join(l); s != "" || e != api.ErrArg {
				t.Errorf("Join(%v) = %q, %d", l, s, e)
			}
		}
	}
}

// TestJoinOfRowsByChance: texts with one blank between each two, wherever the tokens stand.
func TestJoinOfRowsByChance(t *testing.T) {
	rnd := rand.New(rand.NewSource(10))
	for range 20000 {
		l := anyTokens(rnd, 10)
		if rnd.Intn(2) == 0 {
			l = append(l, end())
		}
		var texts []string
		for i := range l {
			l[i].At = places()[rnd.Intn(4)]
			s, _ := modelSpell(l[i])
			texts = append(texts, s)
		}
		kept := slices.Clone(l)
		want := strings.Join(texts, " ")
		if s, e := token.Join(l); s != want || e != api.OK {
			t.Fatalf("Join(%v) = %q, %d, want %q", l, s, e, want)
		}
		if !slices.Equal(l, kept) {
			t.Fatalf("Join has changed %v to %v", kept, l)
		}
	}
}

// P9.3

func TestJoinAndBack(t *testing.T) {
	back := func(l []api.Token) {
		t.Helper()
		s, e := token.Join(l)
		got, f := token.Scan(s)
		if e != api.OK || f != (api.Fault{}) || !slices.Equal(unplaced(got), ended(l)) {
			t.Fatalf("Join(%v) = %q, %d; Scan of it: %v, %v", l, s, e, got, f)
		}
	}
	kinds := []api.Token{named("a"), number(0), number(1), symbol("b")}
	for _, m := range allMarks {
		kinds = append(kinds, mark(m))
	}
	back(nil)
	back([]api.Token{end()})
	for _, a := range kinds {
		back([]api.Token{a})
		for _, b := range kinds {
			back([]api.Token{a, b})
			back([]api.Token{a, b, end()})
		}
	}
	rnd := rand.New(rand.NewSource(11))
	for range 20000 {
		l := anyTokens(rnd, 12)
		back(l)
		back(append(l, end()))
	}
}

// gap makes blanks and comments by chance, at least one of them; behind a / none that would begin at that mark.
func gap(rnd *rand.Rand, behind api.Token) string {
	pieces := []string{" ", "\t", "\r", "\n", "//\n", "// a #true \xff\n", "///\n", "//\r\n"}
	s := ""
	if behind == mark("/") {
		s = pieces[rnd.Intn(4)]
	}
	for s == "" || rnd.Intn(3) > 0 {
		s += pieces[rnd.Intn(len(pieces))]
	}
	return s
}

func TestBlanksAndCommentsTurnPlacesAlone(t *testing.T) {
	rnd := rand.New(rand.NewSource(12))
	for range 20000 {
		s, last := "", end()
		var want []api.Token
		var offs []int
		for _, x := range anyTokens(rnd, 8) {
			s += gap(rnd, last)
			w, _ := token.Spell(x)
			want, offs, last = append(want, x), append(offs, len(s)), x
			s += w
		}
		s += gap(rnd, last)
		want, offs = append(want, end()), append(offs, len(s))
		for i := range want {
			want[i].At = modelSpot(s, offs[i])
		}
		if got, f := token.Scan(s); f != (api.Fault{}) || !slices.Equal(got, want) {
			t.Fatalf("Scan(%q) = %v, %v, want %v", s, got, f, want)
		}
	}
}

func TestACommentBehindAMarkBeginsAtIt(t *testing.T) {
	l, f := token.Scan("a ///\nb")
	if f != (api.Fault{}) || !slices.Equal(unplaced(l), []api.Token{named("a"), named("b"), end()}) {
		t.Error(l, f)
	}
	l, f = token.Scan("a / //\nb")
	if f != (api.Fault{}) || !slices.Equal(unplaced(l), []api.Token{named("a"), mark("/"), named("b"), end()}) {
		t.Error(l, f)
	}
}

func TestSpellAndJoinOfLongTexts(t *testing.T) {
	const n = 1 << 20
	for _, s := range []string{strings.Repeat("a", n), strings.Repeat("(", n), strings.Repeat(" ", n), strings.Repeat("/", n), strings.Repeat("\xff", n)} {
		for kind := range api.TokenKind(6) {
			holdSpell(t, api.Token{Kind: kind, Text: s})
		}
	}
	if s, e := token.Join(slices.Repeat([]api.Token{mark("/")}, n)); s != strings.Repeat("/ ", n-1)+"/" || e != api.OK {
		t.Error("Join of many:", len(s), e)
	}
}
