package arith_test

import (
	"math"
	"math/big"
	"slices"
	"sort"
	"strings"

	"sextant/api"
	"sextant/value"
)

// What the chapter says, told once more in another way, to hold the package against.

func integer(n int64) api.Value      { return api.Value{Kind: api.KInt, Int: n} }
func gauss(re, im int64) api.Value   { return api.Value{Kind: api.KGauss, Int: re, Im: im} }
func symbol(s string) api.Value      { return api.Value{Kind: api.KSym, Text: s} }
func tuple(l ...api.Value) api.Value { return api.Value{Kind: api.KTuple, Items: l} }
func list(l ...api.Value) api.Value  { return api.Value{Kind: api.KList, Items: l} }
func set(l ...api.Value) api.Value   { return api.Value{Kind: api.KSet, Items: l} }

func truth(b bool) api.Value {
	v := api.Value{Kind: api.KBool}
	if b {
		v.Int = 1
	}
	return v
}

// numbers answers integers, from the first on, so many.
func numbers(from int64, n int) []api.Value {
	var l []api.Value
	for i := range n {
		l = append(l, integer(from+int64(i)))
	}
	return l
}

// nested answers lists within one another, so many levels.
func nested(levels int) api.Value {
	v := list()
	for range levels - 1 {
		v = list(v)
	}
	return v
}

// equal holds values against each other field by field.
func equal(a, b api.Value) bool {
	if a.Kind != b.Kind || a.Int != b.Int || a.Im != b.Im || a.Text != b.Text || len(a.Items) != len(b.Items) {
		return false
	}
	for i := range a.Items {
		if !equal(a.Items[i], b.Items[i]) {
			return false
		}
	}
	return true
}

// deepCopy keeps a value as it was, to see whether a call has changed it.
func deepCopy(v api.Value) api.Value {
	v.Items = slices.Clone(v.Items)
	for i := range v.Items {
		v.Items[i] = deepCopy(v.Items[i])
	}
	return v
}

// spoil changes all memory that a value holds.
func spoil(v api.Value) {
	for i := range v.Items {
		spoil(v.Items[i])
		v.Items[i] = api.Value{Kind: 99}
	}
}

// loop is a list that is an item of itself.
func loop() api.Value {
	items := make([]api.Value, 1)
	items[0] = list(items...)
	return list(items...)
}

// wrong answers values that are not right, each with why.
func wrong() map[string]api.Value {
	return map[string]api.Value{
		"the zero value":            {},
		"kind -1":                   {Kind: -1},
		"kind 8":                    {Kind: 8},
		"kind 64":                   {Kind: 64},
		"a truth 2":                 {Kind: api.KBool, Int: 2},
		"a number with Im":          {Kind: api.KInt, Im: 1},
		"a number with items":       {Kind: api.KInt, Items: []api.Value{integer(1)}},
		"a Gaussian one above":      gauss(1<<20+1, 0),
		"a Gaussian one below":      gauss(0, -1<<20-1),
		"a symbol true":             symbol("true"),
		"a symbol without text":     symbol(""),
		"a tuple of a wrong item":   tuple(integer(1), symbol("1")),
		"a list with Int":           {Kind: api.KList, Int: 1},
		"a set that falls":          set(integer(2), integer(1)),
		"a set with like items":     set(integer(1), integer(1)),
		"17 levels":                 nested(17),
		"4097 parts":                list(numbers(0, 4096)...),
		"a list within itself":      loop(),
		"a tuple of one in itself":  tuple(loop()),
		"a wrong value deep inside": tuple(list(set(symbol("false")))),
	}
}

// samples are right values of all kinds.
func samples() []api.Value {
	l := few()
	for _, n := range []int64{-1, 2, -2, 3, -7, 10, 1 << 20, 1<<20 + 1, 1 << 32, 3037000500, 1<<62 + 1, math.MaxInt64, math.MinInt64 + 1} {
		l = append(l, integer(n))
	}
	for _, z := range [][2]int64{{0, 1}, {0, -1}, {1 << 20, 1 << 20}, {-1 << 20, 1 << 20}, {1 << 20, -1 << 20}, {1023, 1025}, {524288, 2}, {-1 << 20, 0}} {
		l = append(l, gauss(z[0], z[1]))
	}
	return append(l,
		symbol("b"), symbol("λ'"), tuple(integer(1)), tuple(integer(1), truth(true)),
		list(integer(5), integer(6), integer(5)), list(truth(true), integer(1), gauss(1, 0), symbol("a")), list(list(integer(1)), set(), list()), list(set(integer(1))),
		set(integer(0)), set(integer(1), integer(2), integer(3)), set(truth(false), integer(1), symbol("a"), tuple(), list(), set()),
		set(set(), set(integer(1))), set(tuple(integer(1)), list(integer(1))), set(numbers(0, 8)...), set(numbers(5, 9)...), set(numbers(0, 10)...), set(numbers(0, 11)...),
		list(numbers(0, 2047)...), list(numbers(0, 2048)...), list(numbers(0, 4095)...), set(numbers(0, 2047)...), set(numbers(3000, 2048)...), set(numbers(100, 4095)...),
		nested(15), nested(16), set(nested(14)), set(nested(15)), tuple(nested(15)),
	)
}

// few are right values, one or two of each kind.
func few() []api.Value {
	return []api.Value{
		truth(false), truth(true), integer(0), integer(1), integer(math.MinInt64), gauss(0, 0), gauss(3, -4), symbol("a"),
		tuple(), list(), list(integer(5), integer(6)), set(), set(integer(1), integer(6)),
	}
}

func operators() []string {
	return []string{"+", "-", "*", "/", "%", "==", "!=", "<", "<=", ">", ">=", "and", "or", "in", "|", "&", "\\", "not"}
}

// strangers are names of no operation.
func strangers() []string {
	return []string{"", "**", "=", " +", "+ ", "And", "xor", "!", "<>", "=>", "&&", "||", "//", "^", "\\\\", "size", "+\x00", "\xff"}
}

// names are the functions with the letters of what they take: (r)ow, (l)ist, (s)et, (i)nteger, (g)aussian, any (v)alue.
func names() [][2]string {
	return [][2]string{
		{"size", "r"}, {"head", "l"}, {"last", "l"}, {"tail", "l"}, {"at", "li"}, {"put", "liv"}, {"push", "lv"},
		{"with", "sv"}, {"without", "sv"}, {"list", "s"}, {"set", "l"}, {"min", "r"}, {"max", "r"}, {"range", "ii"}, {"subsets", "s"},
		{"gauss", "ii"}, {"re", "g"}, {"im", "g"}, {"conj", "g"}, {"norm", "g"}, {"turn", "g"},
	}
}

// end answers what a call comes to, if it is right, and else that it is stuck.
func end(v api.Value) (api.Value, api.Errno) {
	if value.Check(v) != api.OK {
		return api.Value{}, api.ErrStuck
	}
	return v, api.OK
}

func sorry(e api.Errno) (api.Value, api.Errno) { return api.Value{}, e }

// wrapped takes a number modulo 2^64, from -2^63 on.
func wrapped(n *big.Int) api.Value {
	all := new(big.Int).Lsh(big.NewInt(1), 64)
	half := new(big.Int).Lsh(big.NewInt(1), 63)
	m := new(big.Int).Mod(new(big.Int).Add(n, half), all)
	return integer(m.Sub(m, half).Int64())
}

// sorted answers items rising, none twice.
func sorted(items []api.Value) []api.Value {
	l := slices.Clone(items)
	sort.SliceStable(l, func(i, k int) bool { return value.Compare(l[i], l[k]) < 0 })
	var out []api.Value
	for _, v := range l {
		if len(out) == 0 || !equal(out[len(out)-1], v) {
			out = append(out, v)
		}
	}
	return out
}

func has(items []api.Value, v api.Value) bool {
	for _, item := range items {
		if equal(item, v) {
			return true
		}
	}
	return false
}

// chosen answers those of the items that are in others, or those that are not.
func chosen(items, others []api.Value, in bool) []api.Value {
	var out []api.Value
	for _, item := range items {
		if has(others, item) == in {
			out = append(out, item)
		}
	}
	return out
}

func modelUnary(op string, v api.Value) (api.Value, api.Errno) {
	if value.Check(v) != api.OK {
		return sorry(api.ErrArg)
	}
	switch op + string('0'+rune(v.Kind)) {
	case "-2":
		return end(wrapped(new(big.Int).Neg(big.NewInt(v.Int))))
	case "-3":
		return end(gauss(0-v.Int, 0-v.Im))
	case "not1":
		return end(truth(v.Int != 1))
	}
	return sorry(api.ErrSort)
}

func modelBinary(op string, a, b api.Value) (api.Value, api.Errno) {
	if value.Check(a) != api.OK || value.Check(b) != api.OK {
		return sorry(api.ErrArg)
	}
	if op == "in" && (b.Kind == api.KList || b.Kind == api.KSet) {
		return end(truth(has(b.Items, a)))
	}
	if a.Kind != b.Kind {
		return sorry(api.ErrSort)
	}
	signs := map[string]string{"==": "0", "!=": "+-", "<": "-", "<=": "-0", ">": "+", ">=": "+0"}
	if s, ok := signs[op]; ok {
		return end(truth(strings.ContainsRune(s, rune("-0+"[1+value.Compare(a, b)]))))
	}
	if a.Kind == api.KInt && strings.Contains(" + - * / % ", " "+op+" ") {
		return modelIntegers(op, big.NewInt(a.Int), big.NewInt(b.Int))
	}
	switch op + string('0'+rune(a.Kind)) {
	case "and1":
		return end(truth(a.Int+b.Int == 2))
	case "or1":
		return end(truth(a.Int+b.Int > 0))
	case "+3":
		return end(gauss(a.Int+b.Int, a.Im+b.Im))
	case "-3":
		return end(gauss(a.Int-b.Int, a.Im-b.Im))
	case "*3":
		return end(gauss(a.Int*b.Int-a.Im*b.Im, a.Int*b.Im+a.Im*b.Int))
	case "+6":
		return end(list(slices.Concat(a.Items, b.Items)...))
	case "|7":
		return end(set(sorted(slices.Concat(a.Items, b.Items))...))
	case "&7":
		return end(set(chosen(a.Items, b.Items, true)...))
	case "\\7":
		return end(set(chosen(a.Items, b.Items, false)...))
	}
	return sorry(api.ErrSort)
}

func modelIntegers(op string, a, b *big.Int) (api.Value, api.Errno) {
	n := new(big.Int)
	switch {
	case op == "+":
		n.Add(a, b)
	case op == "-":
		n.Sub(a, b)
	case op == "*":
		n.Mul(a, b)
	case b.Sign() == 0:
		return sorry(api.ErrStuck)
	case op == "/":
		n.Quo(a, b)
	case op == "%":
		n.Rem(a, b)
	}
	return end(wrapped(n))
}

// fitting tells whether a value is of a kind that a letter of names stands for.
func fitting(letter byte, v api.Value) bool {
	letters := [...]string{api.KBool: "v", api.KInt: "iv", api.KGauss: "gv", api.KSym: "v", api.KTuple: "v", api.KList: "lrv", api.KSet: "srv"}
	return strings.IndexByte(letters[v.Kind], letter) >= 0
}

func modelCall(name string, args []api.Value) (api.Value, api.Errno) {
	for _, v := range args {
		if value.Check(v) != api.OK {
			return sorry(api.ErrArg)
		}
	}
	for _, f := range names() {
		if f[0] != name || len(f[1]) != len(args) {
			continue
		}
		for i, v := range args {
			if !fitting(f[1][i], v) {
				return sorry(api.ErrSort)
			}
		}
		if strings.ContainsAny(f[1], "lrs") {
			return modelRows(name, args[0].Items, args[1:])
		}
		return modelNumbers(name, args)
	}
	return sorry(api.ErrSort)
}

func modelRows(name string, items, rest []api.Value) (api.Value, api.Errno) {
	n := int64(len(items))
	place := int64(0) // the place that is asked for
	switch name {
	case "at", "put":
		place = rest[0].Int
	case "last", "max":
		place = n - 1
	}
	switch name {
	case "head", "last", "tail", "at", "put", "min", "max":
		if place < 0 || place >= n {
			return sorry(api.ErrStuck)
		}
	}
	switch name {
	case "size":
		return end(integer(n))
	case "head", "last", "at":
		return end(items[place])
	case "min", "max":
		l := slices.Clone(items)
		sort.SliceStable(l, func(i, k int) bool { return value.Compare(l[i], l[k]) < 0 })
		return end(l[place])
	case "tail":
		return end(list(items[1:]...))
	case "put":
		return end(list(slices.Concat(items[:place], rest[1:], items[place+1:])...))
	case "push":
		return end(list(slices.Concat(items, rest)...))
	case "with":
		return end(set(sorted(slices.Concat(items, rest))...))
	case "without":
		return end(set(chosen(items, rest, false)...))
	case "list":
		return end(list(items...))
	case "set":
		return end(set(sorted(items)...))
	}
	return modelSubsets(items)
}

// modelSubsets takes the bits of a number for each subset.
func modelSubsets(items []api.Value) (api.Value, api.Errno) {
	if len(items) > 10 {
		return sorry(api.ErrStuck)
	}
	var all []api.Value
	for bits := range 1 << len(items) {
		s := set()
		for i, item := range items {
			if bits>>i&1 == 1 {
				s.Items = append(s.Items, item)
			}
		}
		all = append(all, s)
	}
	return end(set(sorted(all)...))
}

func modelNumbers(name string, args []api.Value) (api.Value, api.Errno) {
	a := args[0]
	switch name {
	case "range":
		out := list()
		for n := big.NewInt(a.Int); n.Cmp(big.NewInt(args[1].Int)) < 0 && len(out.Items) < 5000; n.Add(n, big.NewInt(1)) {
			out.Items = append(out.Items, integer(n.Int64()))
		}
		return end(out)
	case "gauss":
		return end(gauss(a.Int, args[1].Int))
	case "re":
		return end(integer(a.Int))
	case "im":
		return end(integer(a.Im))
	case "conj":
		return end(gauss(a.Int, 0-a.Im))
	case "norm":
		return end(integer(a.Int*a.Int + a.Im*a.Im))
	}
	return end(gauss(0-a.Im, a.Int))
}
