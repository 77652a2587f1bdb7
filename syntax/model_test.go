package syntax_test

import (
	"fmt"
	"reflect"
	"slices"
	"strings"
	"unicode"

	"sextant/api"
	"sextant/token"
	"sextant/value"
)

// What the chapter says, told once more in another way, to hold the package against: its grammar, read as it stands there, is gone through in all ways at once, and the one way that is left is made into a tree.

// grammarText is the chapter's, with what it says below the grammar put in by three words: VARIABLE and CALLED for the NAMEs of expressions, MINUS for a `-` with no NUMBER behind it.
const grammarText = `
spec   = { auto | table | bind }
auto   = "automaton" NAME head "{" { rule } "}"
table  = "table" NAME head "{" { row } "}"
head   = ( "linear" | "set" | "interval" ) "arg" sort "reply" sort "state" sort "start" expr
bind   = "object" NAME "is" NAME ";"
rule   = "rule" NAME [ "for" gen { "," gen } ] [ "when" expr ] "give" expr "next" expr ";"
gen    = VARIABLE "in" expr
row    = "row" value "{" call { "," call } "}" "gives" "{" reply { "," reply } "}" "next" value ";"
call   = NAME NAME value
reply  = NAME value
sort   = "int" | "bool" | "symbol" | "gauss" | "list" sort | "set" sort | "(" [ sort ( "," | ( "," sort )+ ) ] ")"
value  = [ "-" ] NUMBER | SYMBOL | "true" | "false" | "gauss" "(" [ "-" ] NUMBER "," [ "-" ] NUMBER ")"
       | "(" [ value ( "," | ( "," value )+ ) ] ")" | "[" [ value { "," value } ] "]" | "{" [ value { "," value } ] "}"
expr   = "if" expr "then" expr "else" expr | "let" VARIABLE "=" expr "do" expr
       | "fold" VARIABLE "," VARIABLE "over" expr "from" expr "with" expr | or
or     = and { "or" and }
and    = not { "and" not }
not    = "not" not | comp
comp   = sets [ ( "==" | "!=" | "<" | "<=" | ">" | ">=" | "in" ) sets ]
sets   = sum { ( "|" | "&" | "\" ) sum }
sum    = prod { ( "+" | "-" ) prod }
prod   = minus { ( "*" | "/" | "%" ) minus }
minus  = "-" NUMBER { "." NUMBER } | MINUS minus | field
field  = atom { "." NUMBER }
atom   = NUMBER | SYMBOL | "true" | "false" | VARIABLE | CALLED "(" [ expr { "," expr } ] ")" | "(" expr ")"
       | "(" [ expr ( "," | ( "," expr )+ ) ] ")" | "[" [ expr { "," expr } ] "]" | "{" [ expr { "," expr } ] "}"
`

var reservedWords = strings.Fields("true false if then else let do fold over from with and or not in when give next")

// piece is a piece of the grammar: a word in quotes, a class of tokens, a symbol's use; a row of pieces, a choice among some; one that may be left out, or stand many times, or once at least.
type piece struct {
	form  form
	text  string
	parts []piece
}

type form int

const (
	fWord form = iota
	fClass
	fUse
	fRow
	fChoice
	fMaybe
	fMany
	fSome
)

var grammar = readGrammar(grammarText)

type grammarReader struct{ words []string }

func readGrammar(s string) map[string]piece {
	rules := map[string]piece{}
	r := grammarReader{strings.Fields(s)}
	for len(r.words) > 0 {
		symbol := r.step()
		r.step() // the =
		rules[symbol] = r.choice()
	}
	return rules
}

func (r *grammarReader) step() string {
	w := r.words[0]
	r.words = r.words[1:]
	return w
}

func (r *grammarReader) choice() piece {
	c := piece{form: fChoice, parts: []piece{r.row()}}
	for len(r.words) > 0 && r.words[0] == "|" {
		r.step()
		c.parts = append(c.parts, r.row())
	}
	return c
}

func (r *grammarReader) row() piece {
	p := piece{form: fRow}
	for len(r.words) > 0 && !slices.Contains([]string{"|", ")", ")+", "]", "}"}, r.words[0]) {
		if len(r.words) > 1 && r.words[1] == "=" {
			break
		}
		p.parts = append(p.parts, r.item())
	}
	return p
}

func (r *grammarReader) item() piece {
	w := r.step()
	switch {
	case w == "(" || w == "[" || w == "{":
		inner := r.choice()
		forms := map[string]form{")": fRow, ")+": fSome, "]": fMaybe, "}": fMany}
		return piece{form: forms[r.step()], parts: []piece{inner}}
	case w[0] == '"':
		return piece{form: fWord, text: w[1 : len(w)-1]}
	case unicode.IsUpper(rune(w[0])):
		return piece{form: fClass, text: w}
	}
	return piece{form: fUse, text: w}
}

// tree is how a symbol, or a token (which has no symbol), stands in a text: its tokens are those from from to to.
type tree struct {
	symbol   string
	from, to int
	token    api.Token
	kids     []tree
}

type way struct {
	to   int
	kids []tree
}

type place struct {
	symbol     string
	from, nest int
}

type model struct {
	tokens []api.Token
	far    int          // the farthest token that was looked at
	nests  map[int]bool // where something would lie too deep
	bigs   []tree       // values above the limits: the row's own, and Gaussian integers
	known  map[place][]tree
}

// modelRead answers the tree of a text that is just one such symbol, or its fault.
func modelRead(symbol, s string) (tree, api.Fault) {
	tokens, f := token.Scan(s)
	if f.Code != api.OK {
		return tree{}, f
	}
	m := model{tokens: tokens, nests: map[int]bool{}, known: map[place][]tree{}}
	var whole []tree
	for _, t := range m.trees(symbol, 0, 0, "") {
		m.far = max(m.far, t.to)
		if t.to == len(tokens)-1 {
			whole = append(whole, t)
		}
	}
	switch {
	case len(m.bigs) > 0:
		first := slices.MinFunc(m.bigs, func(a, b tree) int { return a.to - b.to })
		return tree{}, api.Fault{Code: 42, At: tokens[first.from].At}
	case len(whole) > 1:
		panic("two trees: " + s)
	case len(whole) == 1:
		return whole[0], api.Fault{}
	case m.nests[m.far]:
		return tree{}, api.Fault{Code: 101, At: tokens[m.far].At}
	}
	return tree{}, api.Fault{Code: 100, At: tokens[m.far].At}
}

// trees answers all ways in which a symbol can stand from a token on, within so many others; in is the symbol that it is used in.
func (m *model) trees(symbol string, from, nest int, in string) []tree {
	if symbol == "expr" || symbol == "sort" || symbol == "value" || symbol == in {
		if nest >= 64 {
			m.far = max(m.far, from)
			m.nests[from] = true
			return nil
		}
		nest++
	}
	at := place{symbol, from, nest}
	if l, ok := m.known[at]; ok {
		return l
	}
	var l []tree
	for _, w := range m.ways(grammar[symbol], from, nest, symbol) {
		t := tree{symbol: symbol, from: from, to: w.to, kids: w.kids}
		told := symbol == "value" && (nest == 1 || t.kids[0].token.Text == "gauss")
		if told && value.Check(madeValue(t)) != api.OK {
			m.bigs = append(m.bigs, t)
			continue
		}
		l = append(l, t)
	}
	m.known[at] = l
	return l
}

func (m *model) ways(p piece, from, nest int, in string) []way {
	var l []way
	switch p.form {
	case fWord, fClass:
		m.far = max(m.far, from)
		if m.fits(p, from) {
			l = append(l, way{from + 1, []tree{{from: from, to: from + 1, token: m.tokens[from]}}})
		}
	case fUse:
		for _, t := range m.trees(p.text, from, nest, in) {
			l = append(l, way{t.to, []tree{t}})
		}
	case fChoice:
		for _, part := range p.parts {
			l = append(l, m.ways(part, from, nest, in)...)
		}
	case fRow:
		l = []way{{to: from}}
		for _, part := range p.parts {
			l = m.behind(l, part, nest, in)
		}
	default:
		turn := []way{{to: from}}
		if p.form != fSome {
			l = turn
		}
		for first := true; len(turn) > 0 && (first || p.form != fMaybe); first = false {
			turn = m.behind(turn, p.parts[0], nest, in)
			l = append(l, turn...)
		}
	}
	return l
}

// behind answers what comes of ways with a piece behind them.
func (m *model) behind(l []way, p piece, nest int, in string) []way {
	var further []way
	for _, w := range l {
		for _, x := range m.ways(p, w.to, nest, in) {
			further = append(further, way{x.to, slices.Concat(w.kids, x.kids)})
		}
	}
	return further
}

func (m *model) fits(p piece, i int) bool {
	t := m.tokens[i]
	if p.form == fWord {
		return (t.Kind == api.TokenName || t.Kind == api.TokenMark) && t.Text == p.text
	}
	name := t.Kind == api.TokenName
	switch p.text {
	case "NAME":
		return name
	case "VARIABLE":
		return name && !slices.Contains(reservedWords, t.Text)
	case "CALLED":
		never := strings.Contains(" true false if let fold not ", " "+t.Text+" ")
		return name && !never && m.tokens[i+1].Kind == api.TokenMark && m.tokens[i+1].Text == "("
	case "MINUS":
		return t.Kind == api.TokenMark && t.Text == "-" && m.tokens[i+1].Kind != api.TokenInt
	case "NUMBER":
		return t.Kind == api.TokenInt
	case "SYMBOL":
		return t.Kind == api.TokenSym
	}
	panic("no such class: " + p.text)
}

// all answers those of a tree's kids that are such a symbol.
func (t tree) all(symbol string) []tree {
	var l []tree
	for _, k := range t.kids {
		if k.symbol == symbol {
			l = append(l, k)
		}
	}
	return l
}

// texts answers the texts of its own tokens.
func (t tree) texts() []string {
	var l []string
	for _, k := range t.all("") {
		l = append(l, k.token.Text)
	}
	return l
}

// made makes something of each of some trees.
func made[T any](l []tree, one func(tree) T) []T {
	var made []T
	for _, t := range l {
		made = append(made, one(t))
	}
	return made
}

func truthAt(s string, at api.Spot) api.Expr {
	n := int64(0)
	if s == "true" {
		n = 1
	}
	return api.Expr{Kind: api.ELit, At: at, Value: api.Value{Kind: api.KBool, Int: n}}
}

// madeValue does not look at limits.
func madeValue(t tree) api.Value {
	first := t.kids[0].token
	var numbers []int64
	sign := int64(1)
	for _, k := range t.all("") {
		if k.token.Kind == api.TokenInt {
			numbers = append(numbers, sign*k.token.Int)
			sign = 1
		} else if k.token.Text == "-" {
			sign = -1
		}
	}
	items := made(t.all("value"), madeValue)
	switch {
	case first.Kind == api.TokenSym:
		return api.Value{Kind: api.KSym, Text: first.Text}
	case first.Text == "true" || first.Text == "false":
		return truthAt(first.Text, first.At).Value
	case first.Text == "gauss":
		return api.Value{Kind: api.KGauss, Int: numbers[0], Im: numbers[1]}
	case first.Text == "(":
		return api.Value{Kind: api.KTuple, Items: items}
	case first.Text == "[":
		return api.Value{Kind: api.KList, Items: items}
	case first.Text == "{":
		slices.SortFunc(items, value.Compare)
		alike := func(a, b api.Value) bool { return value.Compare(a, b) == 0 }
		return api.Value{Kind: api.KSet, Items: slices.CompactFunc(items, alike)}
	}
	return api.Value{Kind: api.KInt, Int: numbers[0]}
}

func madeSort(t tree) api.Sort {
	kinds := map[string]api.SortKind{"int": 1, "bool": 2, "symbol": 3, "gauss": 4, "(": 5, "list": 6, "set": 7}
	return api.Sort{Kind: kinds[t.kids[0].token.Text], Items: made(t.all("sort"), madeSort)}
}

// span is where an expression of a tree stands among the tokens.
type span struct{ from, to int }

// maker makes expressions, and keeps where each of them stands.
type maker struct{ spans []span }

func (k *maker) kept(e api.Expr, from, to int) api.Expr {
	k.spans = append(k.spans, span{from, to})
	return e
}

func madeExpr(t tree) api.Expr { return new(maker).expr(t) }

func (k *maker) expr(t tree) api.Expr {
	first := t.kids[0]
	switch t.symbol {
	case "expr":
		if first.symbol == "or" {
			return k.expr(first)
		}
		words := t.texts()
		e := api.Expr{At: first.token.At, Items: made(t.all("expr"), k.expr)}
		switch first.token.Text {
		case "if":
			e.Kind = api.EIf
		case "let":
			e.Kind, e.Name = api.ELet, words[1]
		case "fold":
			e.Kind, e.Name, e.Also = api.EFold, words[1], words[3]
		}
		return k.kept(e, t.from, t.to)
	case "atom":
		return k.atom(t)
	case "minus":
		return k.minus(t)
	case "not":
		if first.symbol == "comp" {
			return k.expr(first)
		}
		return k.unary(t)
	}
	return k.chain(k.expr(first), t, 1)
}

func (k *maker) unary(t tree) api.Expr {
	op := t.kids[0].token
	e := api.Expr{Kind: api.EUnary, At: op.At, Op: op.Text, Items: []api.Expr{k.expr(t.kids[1])}}
	return k.kept(e, t.from, t.to)
}

func (k *maker) minus(t tree) api.Expr {
	if t.kids[0].symbol == "field" {
		return k.expr(t.kids[0])
	}
	if t.kids[1].symbol == "minus" {
		return k.unary(t)
	}
	n := api.Value{Kind: api.KInt, Int: -t.kids[1].token.Int}
	e := api.Expr{Kind: api.ELit, At: t.kids[0].token.At, Value: n}
	return k.chain(k.kept(e, t.from, t.from+2), t, 2)
}

// chain groups pairs of an operator (or a `.`) and what stands behind it from the left.
func (k *maker) chain(e api.Expr, t tree, next int) api.Expr {
	for i := next; i < len(t.kids); i += 2 {
		op, right := t.kids[i].token, t.kids[i+1]
		if op.Text == "." {
			place := api.Value{Kind: api.KInt, Int: right.token.Int}
			e = api.Expr{Kind: api.EField, At: op.At, Value: place, Items: []api.Expr{e}}
		} else {
			e = api.Expr{Kind: api.EBin, At: op.At, Op: op.Text, Items: []api.Expr{e, k.expr(right)}}
		}
		e = k.kept(e, t.from, right.to)
	}
	return e
}

func (k *maker) atom(t tree) api.Expr {
	first := t.kids[0].token
	items := made(t.all("expr"), k.expr)
	e := api.Expr{At: first.At, Items: items}
	switch {
	case first.Kind == api.TokenInt:
		e.Kind, e.Value = api.ELit, api.Value{Kind: api.KInt, Int: first.Int}
	case first.Kind == api.TokenSym:
		e.Kind, e.Value = api.ELit, api.Value{Kind: api.KSym, Text: first.Text}
	case first.Text == "true" || first.Text == "false":
		e = truthAt(first.Text, first.At)
	case first.Text == "[":
		e.Kind = api.EList
	case first.Text == "{":
		e.Kind = api.ESet
	case first.Text == "(":
		if len(items) == 1 && len(t.kids) == 3 {
			return k.kept(items[0], t.from, t.to)
		}
		e.Kind = api.ETuple
	case len(t.kids) == 1:
		e.Kind, e.Name = api.EName, first.Text
	default:
		e.Kind, e.Op = api.ECall, first.Text
	}
	return k.kept(e, t.from, t.to)
}

func (k *maker) spec(t tree) api.Spec {
	var s api.Spec
	for _, kid := range t.kids {
		words := kid.texts()
		at := kid.kids[0].token.At
		if kid.symbol == "bind" {
			s.Binds = append(s.Binds, api.Bind{Object: words[1], Auto: words[3], At: at})
			continue
		}
		a := api.Auto{Name: words[1], At: at, Table: kid.symbol == "table"}
		k.head(&a, kid.all("head")[0])
		a.Rules = made(kid.all("rule"), k.rule)
		a.Rows = made(kid.all("row"), madeRow)
		s.Autos = append(s.Autos, a)
	}
	return s
}

func (k *maker) head(a *api.Auto, t tree) {
	a.Mode = map[string]api.Mode{"linear": 1, "set": 2, "interval": 3}[t.kids[0].token.Text]
	sorts := made(t.all("sort"), madeSort)
	a.Arg, a.Reply, a.State = sorts[0], sorts[1], sorts[2]
	a.Start = k.expr(t.all("expr")[0])
}

func (k *maker) rule(t tree) api.Rule {
	words := t.texts()
	r := api.Rule{Name: words[1], At: t.kids[0].token.At}
	for _, g := range t.all("gen") {
		name := g.kids[0].token
		r.Gens = append(r.Gens, api.Gen{Name: name.Text, At: name.At, From: k.expr(g.kids[2])})
	}
	exprs := made(t.all("expr"), k.expr)
	if len(exprs) == 2 {
		give := slices.IndexFunc(t.kids[2:], func(x tree) bool { return x.token.Text == "give" })
		exprs = slices.Insert(exprs, 0, truthAt("true", t.kids[2+give].token.At))
	}
	r.When, r.Give, r.Next = exprs[0], exprs[1], exprs[2]
	return r
}

func madeRow(t tree) api.Row {
	values := made(t.all("value"), madeValue)
	r := api.Row{At: t.kids[0].token.At, From: values[0], To: values[1]}
	for _, c := range t.all("call") {
		words := c.texts()
		r.Calls = append(r.Calls, api.RowCall{Who: words[0], Op: words[1], Arg: madeValue(c.kids[2])})
	}
	for _, c := range t.all("reply") {
		r.Replies = append(r.Replies, api.RowReply{Who: c.texts()[0], Value: madeValue(c.kids[1])})
	}
	return r
}

func modelExpr(s string) (e api.Expr, f api.Fault) {
	t, f := modelRead("expr", s)
	if f.Code == api.OK {
		e = madeExpr(t)
	}
	return e, f
}

func modelSort(s string) (x api.Sort, f api.Fault) {
	t, f := modelRead("sort", s)
	if f.Code == api.OK {
		x = madeSort(t)
	}
	return x, f
}

func modelParse(s string) (x api.Spec, f api.Fault) {
	t, f := modelRead("spec", s)
	if f.Code == api.OK {
		x = new(maker).spec(t)
	}
	return x, f
}

// alike tells whether two answers are, spots and all; nil and empty lists are the same.
func alike(a, b any) bool {
	return reflect.DeepEqual(a, b) || fmt.Sprintf("%+v", a) == fmt.Sprintf("%+v", b)
}
