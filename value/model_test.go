package value_test

import (
	"bytes"
	"encoding/binary"
	"iter"
	"math"
	"math/big"
	"math/rand"
	"regexp"
	"slices"
	"sort"
	"strings"
	"testing"
	"unicode/utf8"

	"sextant/api"
	"sextant/value"
)

// What the chapter says, told once more in another way, to hold the package against.

func integer(n int64) api.Value      { return api.Value{Kind: api.KInt, Int: n} }
func truth(n int64) api.Value        { return api.Value{Kind: api.KBool, Int: n} }
func gauss(re, im int64) api.Value   { return api.Value{Kind: api.KGauss, Int: re, Im: im} }
func symbol(s string) api.Value      { return api.Value{Kind: api.KSym, Text: s} }
func tuple(l ...api.Value) api.Value { return api.Value{Kind: api.KTuple, Items: l} }
func list(l ...api.Value) api.Value  { return api.Value{Kind: api.KList, Items: l} }
func set(l ...api.Value) api.Value   { return api.Value{Kind: api.KSet, Items: l} }

// same holds values against each other field by field.
func same(a, b api.Value) bool {
	if a.Kind != b.Kind || a.Int != b.Int || a.Im != b.Im || a.Text != b.Text || len(a.Items) != len(b.Items) {
		return false
	}
	for i := range a.Items {
		if !same(a.Items[i], b.Items[i]) {
			return false
		}
	}
	return true
}

func zero(v api.Value) bool { return same(v, api.Value{}) }

// deepCopy keeps a value as it was, to see whether a call has changed it.
func deepCopy(v api.Value) api.Value {
	v.Items = slices.Clone(v.Items)
	for i := range v.Items {
		v.Items[i] = deepCopy(v.Items[i])
	}
	return v
}

// modelCompare compares right values kind by kind.
func modelCompare(a, b api.Value) int {
	number := func(x, y int64) int { return big.NewInt(x).Cmp(big.NewInt(y)) }
	if a.Kind != b.Kind {
		return number(int64(a.Kind), int64(b.Kind))
	}
	switch a.Kind {
	case api.KBool, api.KInt:
		return number(a.Int, b.Int)
	case api.KSym:
		return bytes.Compare([]byte(a.Text), []byte(b.Text))
	case api.KGauss:
		if a.Int != b.Int {
			return number(a.Int, b.Int)
		}
		return number(a.Im, b.Im)
	}
	if len(a.Items) != len(b.Items) {
		return number(int64(len(a.Items)), int64(len(b.Items)))
	}
	for i := range a.Items {
		if c := modelCompare(a.Items[i], b.Items[i]); c != 0 {
			return c
		}
	}
	return 0
}

// modelSet answers items rising, none twice.
func modelSet(items []api.Value) []api.Value {
	sorted := slices.Clone(items)
	sort.SliceStable(sorted, func(i, k int) bool { return modelCompare(sorted[i], sorted[k]) < 0 })
	var out []api.Value
	for i, v := range sorted {
		if i == 0 || modelCompare(sorted[i-1], v) != 0 {
			out = append(out, v)
		}
	}
	return out
}

// modelParts answers a value's parts, and its depth.
func modelParts(v api.Value) ([]api.Value, int) {
	parts, deepest := []api.Value{v}, 0
	for _, item := range v.Items {
		more, deep := modelParts(item)
		parts, deepest = append(parts, more...), max(deepest, deep)
	}
	return parts, deepest + 1
}

// modelBytes lays a right value down.
func modelBytes(v api.Value) []byte {
	b := []byte{byte(v.Kind)}
	switch v.Kind {
	case api.KBool:
		return append(b, byte(v.Int))
	case api.KInt:
		return binary.AppendVarint(b, v.Int)
	case api.KGauss:
		return binary.AppendVarint(binary.AppendVarint(b, v.Int), v.Im)
	case api.KSym:
		return append(binary.AppendUvarint(b, uint64(len(v.Text))), v.Text...)
	}
	b = binary.AppendUvarint(b, uint64(len(v.Items)))
	for _, item := range v.Items {
		b = append(b, modelBytes(item)...)
	}
	return b
}

const (
	letterForm = `a-zA-Z_\x{C0}-\x{D6}\x{D8}-\x{F6}\x{F8}-\x{24F}\x{391}-\x{3A1}\x{3A3}-\x{3C9}`
	tokenForm  = `^(?:([()\[\]{},])|([` + letterForm + `][` + letterForm + `0-9']*)|(-?[0-9]+)(?:([+-])([0-9]+)i)?)`
)

var tokens = regexp.MustCompile(tokenForm)

// frame is a tuple, list or set that has been opened and not closed.
type frame struct {
	open  byte
	items []api.Value
	comma bool // the last token was a comma
}

// reading is a text read by a row of frames in place of calls.
type reading struct {
	text   string
	off    int
	frames []*frame
	parts  int
	done   bool
	whole  api.Value
}

func (m *reading) fault(code api.Errno) api.Fault {
	return api.Fault{Code: code, At: api.Spot{Off: m.off, Line: 1, Col: 1 + utf8.RuneCountInString(m.text[:m.off])}}
}

// add takes in a value that is whole.
func (m *reading) add(v api.Value) {
	if len(m.frames) == 0 {
		m.done, m.whole = true, v
		return
	}
	f := m.frames[len(m.frames)-1]
	f.items, f.comma = append(f.items, v), false
}

// mayBegin tells whether a value may begin here.
func (m *reading) mayBegin() bool {
	if len(m.frames) == 0 {
		return !m.done
	}
	f := m.frames[len(m.frames)-1]
	return f.comma || len(f.items) == 0
}

// mark takes in a mark that opens nothing, and tells whether it may stand here.
func (m *reading) mark(c byte) bool {
	if len(m.frames) == 0 {
		return false
	}
	f := m.frames[len(m.frames)-1]
	n := len(f.items)
	if c == ',' {
		ok := n > 0 && !f.comma
		f.comma = true
		return ok
	}
	if c != map[byte]byte{'(': ')', '[': ']', '{': '}'}[f.open] {
		return false
	}
	if f.open == '(' && n == 1 != f.comma || f.open != '(' && f.comma {
		return false
	}
	m.frames = m.frames[:len(m.frames)-1]
	switch c {
	case ')':
		m.add(tuple(f.items...))
	case ']':
		m.add(list(f.items...))
	default:
		m.add(set(modelSet(f.items)...))
	}
	return true
}

// modelNumber tells whether digits, a sign perhaps ahead, are a number's text.
func modelNumber(s string) (int64, bool) {
	n, ok := new(big.Int).SetString(s, 10)
	if !ok || !n.IsInt64() || n.String() != s {
		return 0, false
	}
	return n.Int64(), true
}

// single answers the value of a name's or a number's row, or what is wrong with it.
func single(groups []string) (api.Value, api.Errno) {
	name, re, sign, im := groups[2], groups[3], groups[4], groups[5]
	switch {
	case name == "true":
		return truth(1), api.OK
	case name == "false":
		return truth(0), api.OK
	case name != "" && len([]rune(name)) > 32:
		return api.Value{}, api.ErrWord
	case name != "":
		return symbol(name), api.OK
	}
	a, ok := modelNumber(re)
	if sign == "" {
		if !ok {
			return api.Value{}, api.ErrNumber
		}
		return integer(a), api.OK
	}
	b, also := modelNumber(im)
	if !ok || !also || sign == "-" && b == 0 {
		return api.Value{}, api.ErrNumber
	}
	if sign == "-" {
		b = -b
	}
	if a < -(1<<20) || a > 1<<20 || b < -(1<<20) || b > 1<<20 {
		return api.Value{}, api.ErrBig
	}
	return gauss(a, b), api.OK
}

// modelParse reads a text.
func modelParse(s string) (api.Value, api.Fault) {
	m := &reading{text: s}
	for {
		for m.off < len(s) && (s[m.off] == 32 || s[m.off] == 9) {
			m.off++
		}
		if m.off == len(s) && m.done {
			return m.whole, api.Fault{}
		}
		groups := tokens.FindStringSubmatch(s[m.off:])
		if groups == nil {
			return api.Value{}, m.fault(api.ErrForm)
		}
		opens := groups[1] != "" && strings.Contains("([{", groups[1])
		if groups[1] != "" && !opens {
			if !m.mark(groups[1][0]) {
				return api.Value{}, m.fault(api.ErrForm)
			}
			m.off++
			continue
		}
		if !m.mayBegin() {
			return api.Value{}, m.fault(api.ErrForm)
		}
		m.parts++
		if m.parts > 4096 || len(m.frames) >= 16 {
			return api.Value{}, m.fault(api.ErrBig)
		}
		if opens {
			m.frames = append(m.frames, &frame{open: groups[1][0]})
		} else {
			v, e := single(groups)
			if e != api.OK {
				return api.Value{}, m.fault(e)
			}
			m.add(v)
		}
		m.off += len(groups[0])
	}
}

// holdParse fails unless Parse answers what the model does.
func holdParse(t *testing.T, s string) {
	t.Helper()
	v, f := value.Parse(s)
	want, fault := modelParse(s)
	if !same(v, want) || f != fault {
		t.Fatalf("Parse(%q) = %v, %+v, want %v, %+v", s, v, f, want, fault)
	}
}

// everyText goes through all texts of up to so many pieces.
func everyText(most int, pieces ...string) iter.Seq[string] {
	return func(yield func(string) bool) {
		var down func(string, int) bool
		down = func(s string, left int) bool {
			if !yield(s) {
				return false
			}
			for _, p := range pieces {
				if left > 0 && !down(s+p, left-1) {
					return false
				}
			}
			return true
		}
		down("", most)
	}
}

func parsed(t *testing.T, s string) api.Value {
	t.Helper()
	v, f := value.Parse(s)
	if f != (api.Fault{}) {
		t.Fatalf("Parse(%q): %+v", s, f)
	}
	return v
}

// edges are right values without items, at the ends of their ranges and about them.
func edges() []api.Value {
	l := []api.Value{truth(0), truth(1), tuple(), list(), set()}
	for _, n := range []int64{0, 1, -1, 2, 9, -9, 10, 63, 64, -64, -65, 1 << 20, 1<<20 + 1, -(1 << 20), math.MaxInt64, math.MinInt64, math.MaxInt64 - 1, math.MinInt64 + 1} {
		l = append(l, integer(n))
	}
	for _, re := range []int64{0, 1, -1, 3, 1 << 20, -(1 << 20)} {
		for _, im := range []int64{0, 1, -1, -4, 1 << 20, -(1 << 20)} {
			l = append(l, gauss(re, im))
		}
	}
	for _, s := range []string{"a", "b", "_", "i", "Z", "λ", "λ'", "é1", "True", "true'", "false0", "tru", "inv", "ω", "ÿ", "aa", strings.Repeat("x", 32), strings.Repeat("ω", 32)} {
		l = append(l, symbol(s))
	}
	return l
}

// chance makes a right value of at most so many levels.
func chance(r *rand.Rand, levels int) api.Value {
	some := edges()
	if levels <= 1 || r.Intn(3) == 0 {
		return some[r.Intn(len(some))]
	}
	var items []api.Value
	for range r.Intn(5) {
		items = append(items, chance(r, levels-1))
	}
	switch r.Intn(3) {
	case 0:
		return tuple(items...)
	case 1:
		return list(items...)
	}
	return set(modelSet(items)...)
}

// samples are right values: edges, edges in lists, values at the limits, and values made by chance.
func samples() []api.Value {
	l := edges()
	for _, v := range edges() {
		l = append(l, tuple(v), list(v), set(v), tuple(v, v), list(v, tuple(v)))
	}
	l = append(l, nested(16), wide(4096))
	r := rand.New(rand.NewSource(4))
	for range 2000 {
		l = append(l, chance(r, 2+r.Intn(6)))
	}
	return l
}

// nested answers lists within one another, so many levels.
func nested(levels int) api.Value {
	v := list()
	for range levels - 1 {
		v = list(v)
	}
	return v
}

// wide answers a list of so many parts.
func wide(parts int) api.Value {
	v := list()
	for i := range parts - 1 {
		v.Items = append(v.Items, integer(int64(i)))
	}
	return v
}

// loop is a list that is an item of itself, twice.
func loop() api.Value {
	items := make([]api.Value, 2)
	items[0], items[1] = list(items...), list(items...)
	return list(items...)
}

// broad has few lists in memory, but 60 to the power of 15 parts.
func broad() api.Value {
	v := list()
	for range 15 {
		items := make([]api.Value, 60)
		for i := range items {
			items[i] = v
		}
		v = list(items...)
	}
	return v
}

// wrong answers values that are not right, each with why.
func wrong() map[string]api.Value {
	full := make([]api.Value, 4096)
	for i := range full {
		full[i] = integer(int64(i))
	}
	return map[string]api.Value{
		"the zero value":               {},
		"kind -1":                      {Kind: -1},
		"kind 8":                       {Kind: 8},
		"kind 257":                     {Kind: 257, Int: 1},
		"kind 0 with a number":         {Int: 1},
		"a truth 2":                    truth(2),
		"a truth -1":                   truth(-1),
		"a truth of 2^32":              truth(1 << 32),
		"a truth with Im":              {Kind: api.KBool, Int: 1, Im: 1},
		"a truth with a text":          {Kind: api.KBool, Text: "true"},
		"a truth with items":           {Kind: api.KBool, Items: []api.Value{integer(1)}},
		"a number with Im":             {Kind: api.KInt, Int: 1, Im: 1},
		"a number with a text":         {Kind: api.KInt, Int: 1, Text: "1"},
		"a number with items":          {Kind: api.KInt, Items: []api.Value{integer(1)}},
		"a Gaussian one above in Int":  gauss(1<<20+1, 0),
		"a Gaussian one below in Int":  gauss(-(1<<20)-1, 0),
		"a Gaussian one above in Im":   gauss(0, 1<<20+1),
		"a Gaussian one below in Im":   gauss(0, -(1<<20)-1),
		"a Gaussian one far above":     gauss(math.MaxInt64, math.MaxInt64),
		"a Gaussian one far below":     gauss(math.MinInt64, math.MinInt64),
		"a Gaussian one with a text":   {Kind: api.KGauss, Text: "i"},
		"a Gaussian one with items":    {Kind: api.KGauss, Items: []api.Value{integer(1)}},
		"a symbol without text":        symbol(""),
		"a symbol true":                symbol("true"),
		"a symbol false":               symbol("false"),
		"a symbol that is no name":     symbol("1a"),
		"a symbol with a blank":        symbol("a b"),
		"a symbol of broken bytes":     symbol("a\xff"),
		"a symbol of 33 runes":         symbol(strings.Repeat("a", 33)),
		"a symbol with Int":            {Kind: api.KSym, Text: "a", Int: 1},
		"a symbol with Im":             {Kind: api.KSym, Text: "a", Im: 1},
		"a symbol with items":          {Kind: api.KSym, Text: "a", Items: []api.Value{integer(1)}},
		"a tuple with Int":             {Kind: api.KTuple, Int: 1},
		"a tuple with Im":              {Kind: api.KTuple, Im: -1},
		"a tuple with a text":          {Kind: api.KTuple, Text: "a"},
		"a list with Int":              {Kind: api.KList, Int: 1},
		"a list with Im":               {Kind: api.KList, Im: 1},
		"a list with a text":           {Kind: api.KList, Text: "a"},
		"a set with Int":               {Kind: api.KSet, Int: 1},
		"a set with Im":                {Kind: api.KSet, Im: 1},
		"a set with a text":            {Kind: api.KSet, Text: "a"},
		"a set with like items":        set(integer(1), integer(1)),
		"a set that falls":             set(integer(2), integer(1)),
		"a set that falls at its end":  set(integer(1), integer(3), integer(2)),
		"a set with like ones apart":   set(integer(1), integer(2), integer(1)),
		"a set that falls by kinds":    set(integer(-9), truth(1)),
		"a set within that falls":      tuple(list(set(tuple(integer(2)), tuple(integer(1))))),
		"a set of a wrong item":        set(truth(2)),
		"a list whose last is wrong":   list(integer(1), integer(2), truth(2)),
		"a tuple of the zero value":    tuple(api.Value{}),
		"a wrong value deep inside":    tuple(list(set(tuple(symbol("false"))))),
		"17 levels":                    nested(17),
		"17 levels on one side":        list(list(), nested(16), list()),
		"20000 levels":                 nested(20000),
		"4097 parts":                   wide(4097),
		"4097 parts in two lists":      list(wide(2048), wide(2048)),
		"a set of 4096 items":          set(full...),
		"100000 parts":                 wide(100000),
		"a list within itself":         loop(),
		"a list of 60^15 parts":        broad(),
		"a set of lists within itself": set(loop()),
	}
}
