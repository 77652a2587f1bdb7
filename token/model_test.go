package token_test

import (
	"iter"
	"math"
	"math/big"
	"math/rand"
	"regexp"
	"slices"
	"strconv"
	"strings"
	"unicode/utf8"

	"sextant/api"
)

// What the chapter says, told once more in another way, to hold the package against: by regular expressions, and by spots that are counted anew for each place.

const (
	letters  = `a-zA-Z_\x{C0}-\x{D6}\x{D8}-\x{F6}\x{F8}-\x{24F}\x{391}-\x{3A1}\x{3A3}-\x{3C9}`
	behindIt = `[` + letters + `0-9']*`
)

// allMarks are the chapter's, in its order.
var allMarks = strings.Fields(`( ) [ ] { } , ; . + - * / % | & \ == != <= >= < > =`)

var between = regexp.MustCompile(`^(?:[\x20\x09\x0A\x0D]|//[^\x0A]*)`)

type form struct {
	kind api.TokenKind
	text *regexp.Regexp
}

var forms = []form{
	{api.TokenName, regexp.MustCompile(`^[` + letters + `]` + behindIt)},
	{api.TokenInt, regexp.MustCompile(`^[0-9]` + behindIt)},
	{api.TokenSym, regexp.MustCompile(`^#[` + letters + `]` + behindIt)},
	{api.TokenMark, markForm()},
}

func markForm() *regexp.Regexp {
	var l []string
	for _, m := range allMarks {
		l = append(l, regexp.QuoteMeta(m))
	}
	r := regexp.MustCompile(`^(?:` + strings.Join(l, "|") + `)`)
	r.Longest()
	return r
}

// modelSpot takes an off at which a rune begins, or the text's end.
func modelSpot(s string, off int) api.Spot {
	ahead := s[:off]
	line := ahead[strings.LastIndexByte(ahead, 10)+1:]
	return api.Spot{Off: off, Line: 1 + strings.Count(ahead, "\n"), Col: 1 + utf8.RuneCountInString(line)}
}

func modelScan(s string) ([]api.Token, api.Fault) {
	var l []api.Token
	for off := 0; off < len(s); {
		if n := len(between.FindString(s[off:])); n > 0 {
			off += n
			continue
		}
		longest, kind := "", api.TokenEnd
		for _, f := range forms {
			if m := f.text.FindString(s[off:]); len(m) > len(longest) {
				longest, kind = m, f.kind
			}
		}
		t, code := modelToken(kind, longest)
		if code != api.OK {
			return nil, api.Fault{Code: code, At: modelSpot(s, off)}
		}
		t.At = modelSpot(s, off)
		l = append(l, t)
		off += len(longest)
	}
	return append(l, api.Token{At: modelSpot(s, len(s))}), api.Fault{}
}

func modelToken(kind api.TokenKind, s string) (api.Token, api.Errno) {
	switch kind {
	case api.TokenName, api.TokenSym:
		name := strings.TrimPrefix(s, "#")
		if utf8.RuneCountInString(name) > 32 || kind == api.TokenSym && (name == "true" || name == "false") {
			return api.Token{}, 21
		}
		return api.Token{Kind: kind, Text: name}, 0
	case api.TokenInt:
		n, ok := new(big.Int).SetString(s, 10)
		if !ok || n.String() != s || !n.IsInt64() {
			return api.Token{}, 22
		}
		return api.Token{Kind: kind, Int: n.Int64()}, 0
	case api.TokenMark:
		return api.Token{Kind: kind, Text: s}, 0
	}
	return api.Token{}, 90
}

var wholeName = regexp.MustCompile(`\A[` + letters + `]` + behindIt + `\z`)

// modelSpell looks at each kind's fields one by one, and does not scan.
func modelSpell(t api.Token) (string, api.Errno) {
	named := t.Int == 0 && wholeName.MatchString(t.Text) && utf8.RuneCountInString(t.Text) <= 32
	switch {
	case t.Kind == 0 && t.Text == "" && t.Int == 0:
		return "", 0
	case t.Kind == 1 && named:
		return t.Text, 0
	case t.Kind == 2 && t.Text == "" && t.Int >= 0:
		return strconv.FormatInt(t.Int, 10), 0
	case t.Kind == 3 && named && t.Text != "true" && t.Text != "false":
		return "#" + t.Text, 0
	case t.Kind == 4 && t.Int == 0 && slices.Contains(allMarks, t.Text):
		return t.Text, 0
	}
	return "", 2
}

// everyText goes through all texts of at most so many of these pieces.
func everyText(most int, pieces ...string) iter.Seq[string] {
	return func(yield func(string) bool) {
		var grow func(s string, left int) bool
		grow = func(s string, left int) bool {
			if !yield(s) {
				return false
			}
			for _, p := range pieces {
				if left > 0 && !grow(s+p, left-1) {
					return false
				}
			}
			return true
		}
		grow("", most)
	}
}

// named, number, symbol and mark make tokens without places.
func named(s string) api.Token  { return api.Token{Kind: api.TokenName, Text: s} }
func number(n int64) api.Token  { return api.Token{Kind: api.TokenInt, Int: n} }
func symbol(s string) api.Token { return api.Token{Kind: api.TokenSym, Text: s} }
func mark(s string) api.Token   { return api.Token{Kind: api.TokenMark, Text: s} }
func end() api.Token            { return api.Token{} }

// anyToken makes a token by chance, but no end.
func anyToken(rnd *rand.Rand) api.Token {
	names := []string{"a", "x'", "λ1", "true", "false", "rule", "_", "é", "a0'9", strings.Repeat("a", 32), strings.Repeat("Ω", 32)}
	numbers := []int64{0, 1, 7, 10, 100, math.MaxInt64, math.MaxInt64 - 1}
	switch rnd.Intn(5) {
	case 0:
		return named(names[rnd.Intn(len(names))])
	case 1:
		return number(numbers[rnd.Intn(len(numbers))])
	case 2:
		return number(rnd.Int63() >> rnd.Intn(63))
	case 3:
		name := names[rnd.Intn(len(names))]
		if name == "true" || name == "false" {
			name += "'"
		}
		return symbol(name)
	}
	return mark(allMarks[rnd.Intn(len(allMarks))])
}

func anyTokens(rnd *rand.Rand, most int) []api.Token {
	var l []api.Token
	for range rnd.Intn(most + 1) {
		l = append(l, anyToken(rnd))
	}
	return l
}

// unplaced answers tokens without their places.
func unplaced(l []api.Token) []api.Token {
	l = slices.Clone(l)
	for i := range l {
		l[i].At = api.Spot{}
	}
	return l
}

// ended puts an end behind tokens that have none.
func ended(l []api.Token) []api.Token {
	l = slices.Clone(l)
	if len(l) == 0 || l[len(l)-1].Kind != api.TokenEnd {
		l = append(l, end())
	}
	return l
}
