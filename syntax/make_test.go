package syntax_test

import (
	"iter"
	"math/rand"
	"slices"
	"strings"
	"testing"
	"unicode"

	"sextant/api"
	"sextant/syntax"
)

// holdExpr, holdSort and holdParse fail unless a text is read as the model says.
func holdExpr(t *testing.T, s string) {
	t.Helper()
	want, fault := modelExpr(s)
	if got, f := syntax.Expr(s); f != fault || !alike(got, want) {
		t.Fatalf("Expr(%q) = %+v, %+v, want %+v, %+v", s, got, f, want, fault)
	}
}

func holdSort(t *testing.T, s string) {
	t.Helper()
	want, fault := modelSort(s)
	if got, f := syntax.Sort(s); f != fault || !alike(got, want) {
		t.Fatalf("Sort(%q) = %+v, %+v, want %+v, %+v", s, got, f, want, fault)
	}
}

func holdParse(t *testing.T, s string) {
	t.Helper()
	want, fault := modelParse(s)
	if got, f := syntax.Parse(s); f != fault || !alike(got, want) {
		t.Fatalf("Parse(%q) = %+v, %+v, want %+v, %+v", s, got, f, want, fault)
	}
}

// faultAt fails unless the fault is that one, at that byte.
func faultAt(t *testing.T, s string, f api.Fault, code api.Errno, off int) {
	t.Helper()
	if f.Code != code || f.At.Off != off {
		t.Errorf("%q: %+v, want %d at %d", s, f, code, off)
	}
}

// everyRow goes through rows of at most so many of these words, but through none that go on behind the first word that may not stand there: the fault stays where it is. (Behind a name they go on once: whether it may stand there hangs on a bracket behind it.)
func everyRow(symbol string, most int, words ...string) iter.Seq[string] {
	return func(yield func(string) bool) {
		var grow func(row string, last string, left int) bool
		grow = func(row string, last string, left int) bool {
			if !yield(row) {
				return false
			}
			_, f := modelRead(symbol, row)
			atLast := f.At.Off >= len(row)-len(last) && last != "" && unicode.IsLetter(rune(last[0]))
			if left == 0 || f.Code != api.OK && f.At.Off < len(row) && !atLast {
				return true
			}
			for _, w := range words {
				if !grow(row+w+" ", w+" ", left-1) {
					return false
				}
			}
			return true
		}
		grow("", "", most)
	}
}

// pool has a word of each kind, and some that are easily taken for one another.
var pool = strings.Fields(`( ) [ ] { } , ; . + - * / % | & \ == != <= >= < > = 0 1 7 9223372036854775807 #a #if #int x y f state
	true false if then else let do fold over from with and or not in when give next
	automaton table linear set interval arg reply start object is rule for row gives int bool symbol gauss list`)

// words answers the words of a text of the grammar by chance; deep tells how many uses of expr, sort and value may lie within one another.
func words(rnd *rand.Rand, p piece, deep int) []string {
	pick := func(s string) []string {
		l := strings.Fields(s)
		return []string{l[rnd.Intn(len(l))]}
	}
	var l []string
	switch p.form {
	case fWord:
		return []string{p.text}
	case fClass:
		return pick(map[string]string{
			"NAME":     "a b x q enq A' rule next if true for set linear row gives",
			"VARIABLE": "x y state calls list set gauss int rule for is arg λ'",
			"CALLED":   "f with in or and when then do give next over from else size set list x gauss",
			"MINUS":    "-",
			"NUMBER":   "0 1 2 10 1048576 1048577 9223372036854775807",
			"SYMBOL":   "#a #if #x' #not",
		}[p.text])
	case fUse:
		switch p.text {
		case "expr", "sort", "value":
			if deep == 0 {
				return pick(map[string]string{"expr": "1 x #a true", "sort": "int bool", "value": "1 #a true"}[p.text])
			}
			deep--
		}
		return words(rnd, grammar[p.text], deep)
	case fChoice:
		return words(rnd, p.parts[rnd.Intn(len(p.parts))], deep)
	case fRow:
		for _, part := range p.parts {
			l = append(l, words(rnd, part, deep)...)
		}
		return l
	case fSome:
		l = words(rnd, p.parts[0], deep)
	}
	for rnd.Intn(3) == 0 {
		l = append(l, words(rnd, p.parts[0], deep)...)
		if p.form == fMaybe {
			break
		}
	}
	return l
}

// wordsOf makes words of a symbol, not too many of them; of a specification not too few, either.
func wordsOf(rnd *rand.Rand, symbol string, deep int) []string {
	least := map[string]int{"spec": 20}[symbol]
	for {
		if l := words(rnd, grammar[symbol], deep); len(l) >= least && len(l) < 120 {
			return l
		}
	}
}

// spoilt answers words of which one is left out, doubled, changed, or put at another place.
func spoilt(rnd *rand.Rand, l []string) []string {
	l = slices.Clone(l)
	if len(l) == 0 {
		return []string{pool[rnd.Intn(len(pool))]}
	}
	i, j := rnd.Intn(len(l)), rnd.Intn(len(l))
	switch rnd.Intn(5) {
	case 0:
		return slices.Delete(l, i, i+1)
	case 1:
		return slices.Insert(l, i, pool[rnd.Intn(len(pool))])
	case 2:
		l[i] = pool[rnd.Intn(len(pool))]
	case 3:
		l[i], l[j] = l[j], l[i]
	case 4:
		return l[:i]
	}
	return l
}

// spaced puts blanks and comments between words by chance, one at least.
func spaced(rnd *rand.Rand, l []string) string {
	gaps := []string{" ", " ", "\n", "\t", "\r\n", "  ", " // λ x ( \n", " //\n", "\n\n"}
	var b strings.Builder
	for _, w := range l {
		b.WriteString(gaps[rnd.Intn(len(gaps))])
		b.WriteString(w)
	}
	b.WriteString(gaps[rnd.Intn(len(gaps))])
	return b.String()
}

// exprOf and specOf read what is known to be right.
func exprOf(t testing.TB, s string) api.Expr {
	t.Helper()
	e, f := syntax.Expr(s)
	if f != (api.Fault{}) {
		t.Fatalf("Expr(%q): %+v", s, f)
	}
	return e
}

func specOf(t testing.TB, s string) api.Spec {
	t.Helper()
	x, f := syntax.Parse(s)
	if f != (api.Fault{}) {
		t.Fatalf("Parse(%q): %+v", s, f)
	}
	return x
}

func integer(n int64) api.Expr {
	return api.Expr{Kind: api.ELit, Value: api.Value{Kind: api.KInt, Int: n}}
}

func truth(n int64) api.Expr {
	return api.Expr{Kind: api.ELit, Value: api.Value{Kind: api.KBool, Int: n}}
}

func symbol(s string) api.Expr {
	return api.Expr{Kind: api.ELit, Value: api.Value{Kind: api.KSym, Text: s}}
}

func name(s string) api.Expr { return api.Expr{Kind: api.EName, Name: s} }

func unary(op string, x api.Expr) api.Expr {
	return api.Expr{Kind: api.EUnary, Op: op, Items: []api.Expr{x}}
}

func pair(x api.Expr, op string, y api.Expr) api.Expr {
	return api.Expr{Kind: api.EBin, Op: op, Items: []api.Expr{x, y}}
}

func field(x api.Expr, n int64) api.Expr {
	return api.Expr{Kind: api.EField, Value: api.Value{Kind: api.KInt, Int: n}, Items: []api.Expr{x}}
}

func call(op string, items ...api.Expr) api.Expr {
	return api.Expr{Kind: api.ECall, Op: op, Items: items}
}

func tuple(items ...api.Expr) api.Expr { return api.Expr{Kind: api.ETuple, Items: items} }
func list(items ...api.Expr) api.Expr  { return api.Expr{Kind: api.EList, Items: items} }
func set(items ...api.Expr) api.Expr   { return api.Expr{Kind: api.ESet, Items: items} }

// unplaced puts zero spots in place of an expression's own.
func unplaced(e api.Expr) api.Expr {
	e.At = api.Spot{}
	var items []api.Expr
	for _, x := range e.Items {
		items = append(items, unplaced(x))
	}
	e.Items = items
	return e
}
