package sorts_test

import (
	"slices"
	"strings"

	"sextant/api"
	"sextant/text"
	"sextant/value"
)

// What the chapter says, told once more, to hold the package against: sorts as they are handed in, counted and compared wherever they stand; faults as answers; functions and operators by rows of words that say what they take and what they give.

func countParts(s api.Sort) int {
	n := 1
	for _, item := range s.Items {
		n += countParts(item)
	}
	return n
}

func countLevels(s api.Sort) int {
	n := 0
	for _, item := range s.Items {
		n = max(n, countLevels(item))
	}
	return n + 1
}

func shaped(s api.Sort) bool {
	items := map[api.SortKind]int{api.SNone: 0, api.SInt: 0, api.SBool: 0, api.SSym: 0, api.SGauss: 0, api.STuple: len(s.Items), api.SList: 1, api.SSet: 1}
	n, ok := items[s.Kind]
	if !ok || n != len(s.Items) {
		return false
	}
	for _, item := range s.Items {
		if !shaped(item) {
			return false
		}
	}
	return true
}

func modelMayBe(s api.Sort) bool {
	return shaped(s) && countParts(s) <= 4096 && countLevels(s) <= 64
}

func modelRight(s api.Sort) bool { return modelMayBe(s) && !hasNone(s) }

func modelFits(s api.Sort, v api.Value) bool {
	return modelMayBe(s) && value.Check(v) == api.OK && modelTakes(s, v)
}

func modelTakes(s api.Sort, v api.Value) bool {
	every := func(ss []api.Sort) bool {
		for i, item := range v.Items {
			if !modelTakes(ss[i], item) {
				return false
			}
		}
		return true
	}
	switch {
	case s.Kind == api.SInt && v.Kind == api.KInt, s.Kind == api.SBool && v.Kind == api.KBool,
		s.Kind == api.SSym && v.Kind == api.KSym, s.Kind == api.SGauss && v.Kind == api.KGauss:
		return true
	case s.Kind == api.STuple && v.Kind == api.KTuple:
		return len(s.Items) == len(v.Items) && every(s.Items)
	case s.Kind == api.SList && v.Kind == api.KList, s.Kind == api.SSet && v.Kind == api.KSet:
		return every(slices.Repeat(s.Items, len(v.Items)))
	}
	return false
}

func modelWithin(a, b api.Sort) bool {
	if !modelMayBe(a) || !modelMayBe(b) {
		return false
	}
	got, ok := modelJoin(a, b)
	return ok && show(got) == show(b)
}

func modelJoin(a, b api.Sort) (api.Sort, bool) {
	if !modelMayBe(a) || !modelMayBe(b) {
		return api.Sort{}, false
	}
	if a.Kind == api.SNone {
		return b, true
	}
	if b.Kind == api.SNone {
		return a, true
	}
	if a.Kind != b.Kind || len(a.Items) != len(b.Items) {
		return api.Sort{}, false
	}
	whole := sortOf(a.Kind)
	for i := range a.Items {
		item, ok := modelJoin(a.Items[i], b.Items[i])
		if !ok {
			return api.Sort{}, false
		}
		whole.Items = append(whole.Items, item)
	}
	if !modelMayBe(whole) {
		return api.Sort{}, false
	}
	return whole, true
}

func modelJoinAll(l []api.Sort) (api.Sort, bool) {
	whole, ok := sortOf(api.SNone), true
	for _, s := range l {
		if whole, ok = modelJoin(whole, s); !ok {
			return api.Sort{}, false
		}
	}
	return whole, true
}

func modelOf(v api.Value) (api.Sort, bool) {
	if value.Check(v) != api.OK {
		return api.Sort{}, false
	}
	var items []api.Sort
	for _, item := range v.Items {
		s, ok := modelOf(item)
		if !ok {
			return api.Sort{}, false
		}
		items = append(items, s)
	}
	switch v.Kind {
	case api.KInt:
		return so("int"), true
	case api.KBool:
		return so("bool"), true
	case api.KSym:
		return so("symbol"), true
	case api.KGauss:
		return so("gauss"), true
	case api.KTuple:
		return tupleOf(items...), modelMayBe(tupleOf(items...))
	}
	item, ok := modelJoinAll(items)
	kind := api.SList
	if v.Kind == api.KSet {
		kind = api.SSet
	}
	return sortOf(kind, item), ok && modelMayBe(sortOf(kind, item))
}

// functionRows and operatorRows: names | what is taken | what is given. s and t are any sorts; `row` is a list or a set; `s+t` the join of them; `if s+t`: they must have one.
const functionRows = `
size | row s | int
head last | list s | s
tail | list s | list s
at | list s, int | s
put | list s, int, t | list s+t
push | list s, t | list s+t
with without | set s, t | set s+t
list | set s | list s
set | list s | set s
min max | row s | s
range | int, int | list int
subsets | set s | set set s
gauss | int, int | gauss
re im norm | gauss | int
conj turn | gauss | gauss`

const operatorRows = `
- | none | none
- | int | int
- | gauss | gauss
not | bool | bool
+ - * | none, none | none
+ - * | int, int | int
+ - * | gauss, gauss | gauss
+ | list s, list t | list s+t
/ % | int, int | int
and or | bool, bool | bool
== != < <= > >= | s, t | bool if s+t
in | t, row s | bool if s+t
OR & \ | set s, set t | set s+t`

// called looks up what comes of arguments; known: there is such a name, with so many arguments; ok: it takes these.
func called(rows, op string, args []api.Sort) (got api.Sort, known, ok bool) {
	for _, row := range strings.Split(strings.TrimSpace(rows), "\n") {
		cells := strings.Split(row, " | ")
		takes := strings.Split(cells[1], ", ")
		if !slices.Contains(strings.Fields(cells[0]), strings.ReplaceAll(op, "|", "OR")) || len(takes) != len(args) {
			continue
		}
		known = true
		bound := map[string]api.Sort{}
		fit := true
		for i, pattern := range takes {
			fit = fit && matches(strings.Fields(pattern), args[i], bound)
		}
		if fit {
			got, ok = build(strings.Fields(cells[2]), bound)
			return got, true, ok
		}
	}
	return api.Sort{}, known, false
}

func matches(pattern []string, s api.Sort, bound map[string]api.Sort) bool {
	none := s.Kind == api.SNone
	switch pattern[0] {
	case "s", "t":
		bound[pattern[0]] = s
		return true
	case "none":
		return none
	case "list", "set", "row":
		if none {
			return matches(pattern[1:], s, bound)
		}
		fit := s.Kind == api.SList && pattern[0] != "set" || s.Kind == api.SSet && pattern[0] != "list"
		return fit && matches(pattern[1:], s.Items[0], bound)
	}
	return none || show(s) == show(so(pattern[0]))
}

func build(pattern []string, bound map[string]api.Sort) (api.Sort, bool) {
	if len(pattern) == 3 && pattern[1] == "if" {
		_, ok := build(pattern[2:], bound)
		return so(pattern[0]), ok
	}
	switch pattern[0] {
	case "s":
		return bound["s"], true
	case "s+t":
		return modelJoin(bound["s"], bound["t"])
	case "none":
		return so("?"), true
	case "list", "set":
		item, ok := build(pattern[1:], bound)
		whole := sortOf(so(pattern[0]+" ?").Kind, item)
		return whole, ok && modelMayBe(whole)
	}
	return so(pattern[0]), true
}

// modelScope has names with their sorts, the one that counts last.
type modelScope []struct {
	name string
	sort api.Sort
}

func (m modelScope) with(name string, s api.Sort) modelScope {
	if !modelMayBe(s) {
		s = so("?")
	}
	return append(slices.Clone(m), struct {
		name string
		sort api.Sort
	}{name, s})
}

func modelExpr(e api.Expr, names []string, given []api.Sort) (api.Sort, api.Fault) {
	var scope modelScope
	for i := 0; i < len(names) && i < len(given); i++ {
		scope = scope.with(names[i], given[i])
	}
	return scope.expr(e, 0)
}

func (m modelScope) expr(e api.Expr, folds int) (api.Sort, api.Fault) {
	own := api.Fault{Code: api.ErrUnlike, At: e.At}
	if !modelFormed(e, folds) {
		return api.Sort{}, own
	}
	var items []api.Sort
	for i, item := range e.Items {
		inner, deeper := m, folds
		if e.Kind == api.ELet && i == 1 {
			inner = m.with(e.Name, items[0])
		}
		if e.Kind == api.EFold && i == 2 {
			inner, deeper = m.with(e.Name, itemSort(items[0])).with(e.Also, items[1]), folds+1
		}
		s, f := inner.expr(item, deeper)
		if f.Code != api.OK {
			return api.Sort{}, f
		}
		items = append(items, s)
	}
	if e.Kind == api.EFold {
		return m.fold(e, folds, items)
	}
	got, code := m.own(e, items)
	if code != api.OK {
		own.Code = code
		return api.Sort{}, own
	}
	return got, api.Fault{}
}

func itemSort(s api.Sort) api.Sort {
	if s.Kind == api.SList || s.Kind == api.SSet {
		return s.Items[0]
	}
	return so("?")
}

func (m modelScope) fold(e api.Expr, folds int, items []api.Sort) (api.Sort, api.Fault) {
	own := api.Fault{Code: api.ErrUnlike, At: e.At}
	whole, ok := modelJoin(items[1], items[2])
	if !ok {
		return api.Sort{}, own
	}
	again, f := m.with(e.Name, itemSort(items[0])).with(e.Also, whole).expr(e.Items[2], folds+1)
	if f.Code != api.OK {
		return api.Sort{}, f
	}
	rows := []api.SortKind{api.SNone, api.SList, api.SSet}
	if !modelWithin(again, whole) || !slices.Contains(rows, items[0].Kind) {
		return api.Sort{}, own
	}
	return whole, api.Fault{}
}

// own answers the sort of all but folds.
func (m modelScope) own(e api.Expr, items []api.Sort) (api.Sort, api.Errno) {
	got, ok := api.Sort{}, false
	switch e.Kind {
	case api.ELit:
		got, ok = modelOf(e.Value)
	case api.EName:
		for _, b := range slices.Backward(m) {
			if b.name == e.Name {
				return b.sort, api.OK
			}
		}
		return api.Sort{}, api.ErrUnknown
	case api.ETuple:
		got = tupleOf(items...)
		ok = modelMayBe(got)
	case api.EList, api.ESet:
		item, joined := modelJoinAll(items)
		got = listOf(item)
		if e.Kind == api.ESet {
			got = setOf(item)
		}
		ok = joined && modelMayBe(got)
	case api.EUnary:
		got, _, ok = called(operatorRows, e.Op, items)
	case api.EBin:
		if slices.Contains([]string{"+", "-", "*"}, e.Op) {
			items = alikeNone(items)
		}
		got, _, ok = called(operatorRows, e.Op, items)
	case api.EIf:
		got, ok = modelJoin(items[1], items[2])
		ok = ok && modelWithin(items[0], so("bool"))
	case api.ELet:
		got, ok = items[1], true
	case api.ECall:
		known := false
		if got, known, ok = called(functionRows, e.Op, items); !known {
			return api.Sort{}, api.ErrUnknown
		}
	case api.EField:
		if items[0].Kind == api.SNone {
			return items[0], api.OK
		}
		if ok = items[0].Kind == api.STuple && e.Value.Int < int64(len(items[0].Items)); ok {
			got = items[0].Items[e.Value.Int]
		}
	}
	if !ok {
		return api.Sort{}, api.ErrUnlike
	}
	return got, api.OK
}

// alikeNone takes SNone for the other one's sort.
func alikeNone(items []api.Sort) []api.Sort {
	if items[0].Kind == api.SNone {
		return []api.Sort{items[1], items[1]}
	}
	if items[1].Kind == api.SNone {
		return []api.Sort{items[0], items[0]}
	}
	return items
}

func modelFormed(e api.Expr, folds int) bool {
	named := func(s string) bool { return text.Name(s) == api.OK }
	counts := map[api.ExprKind]int{api.ELit: 0, api.EName: 0, api.EUnary: 1, api.EBin: 2, api.EIf: 3, api.ELet: 2, api.EFold: 3, api.EField: 1}
	count, ok := counts[e.Kind]
	if !ok {
		return slices.Contains([]api.ExprKind{api.ETuple, api.EList, api.ESet, api.ECall}, e.Kind)
	}
	if count != len(e.Items) {
		return false
	}
	switch e.Kind {
	case api.ELit:
		return value.Check(e.Value) == api.OK
	case api.EName, api.ELet:
		return named(e.Name)
	case api.EFold:
		return named(e.Name) && named(e.Also) && folds < 8
	case api.EUnary:
		return slices.Contains(strings.Fields("- not"), e.Op)
	case api.EBin:
		return slices.Contains(strings.Fields(`or and == != < <= > >= in | & \ + - * / %`), e.Op)
	case api.EField:
		return modelFits(so("int"), e.Value) && e.Value.Int >= 0
	}
	return true
}

func modelAuto(a api.Auto) api.Fault {
	own := api.Fault{Code: api.ErrUnlike, At: a.At}
	linear := a.Mode == api.MLinear
	calls, gives := setOf(tupleOf(so("symbol"), so("symbol"), a.Arg)), setOf(tupleOf(so("symbol"), a.Reply))
	if linear {
		calls, gives = so("int"), a.Reply
	}
	if a.Mode < api.MLinear || a.Mode > api.MInterval || a.Table && len(a.Rules) > 0 || !a.Table && len(a.Rows) > 0 {
		return own
	}
	for _, s := range []api.Sort{a.Arg, a.Reply, a.State, calls, gives} {
		if !modelRight(s) {
			return own
		}
	}
	if f := (modelScope{}).within(a.Start, a.State); f.Code != api.OK {
		return f
	}
	for _, r := range a.Rules {
		scope := modelScope{}.with("state", a.State)
		if linear {
			scope = scope.with("proc", so("symbol")).with("op", so("symbol")).with("arg", a.Arg)
		} else {
			scope = scope.with("calls", calls)
		}
		if f := scope.rule(r, gives, a.State); f.Code != api.OK {
			return f
		}
	}
	for _, r := range a.Rows {
		if !modelRow(a, r) {
			return api.Fault{Code: api.ErrRow, At: r.At}
		}
	}
	return api.Fault{}
}

func (m modelScope) within(e api.Expr, wanted api.Sort) api.Fault {
	s, f := m.expr(e, 0)
	if f.Code == api.OK && !modelWithin(s, wanted) {
		return api.Fault{Code: api.ErrUnlike, At: e.At}
	}
	return f
}

func (m modelScope) rule(r api.Rule, gives, state api.Sort) api.Fault {
	for _, g := range r.Gens {
		if text.Name(g.Name) != api.OK {
			return api.Fault{Code: api.ErrUnlike, At: g.At}
		}
		s, f := m.expr(g.From, 0)
		if f.Code != api.OK {
			return f
		}
		if s.Kind != api.SNone && s.Kind != api.SList && s.Kind != api.SSet {
			return api.Fault{Code: api.ErrUnlike, At: g.From.At}
		}
		m = m.with(g.Name, itemSort(s))
	}
	if f := m.within(r.When, so("bool")); f.Code != api.OK {
		return f
	}
	if f := m.within(r.Give, gives); f.Code != api.OK {
		return f
	}
	return m.within(r.Next, state)
}

func modelRow(a api.Auto, r api.Row) bool {
	ok := modelFits(a.State, r.From) && modelFits(a.State, r.To) && len(r.Calls) > 0 && len(r.Replies) > 0
	ok = ok && (a.Mode != api.MLinear || len(r.Calls) == 1)
	count := func(who string) (calls, replies int) {
		for _, c := range r.Calls {
			if c.Who == who {
				calls++
			}
		}
		for _, c := range r.Replies {
			if c.Who == who {
				replies++
			}
		}
		return calls, replies
	}
	for _, c := range r.Calls {
		_, e := value.Symbol(c.Op)
		calls, replies := count(c.Who)
		ok = ok && e == api.OK && modelFits(a.Arg, c.Arg) && calls == 1 && (a.Mode == api.MInterval || replies > 0)
	}
	for _, c := range r.Replies {
		calls, replies := count(c.Who)
		ok = ok && modelFits(a.Reply, c.Value) && calls == 1 && replies == 1
	}
	return ok
}

func modelSpec(s api.Spec) api.Fault {
	for i, a := range s.Autos {
		for _, other := range s.Autos[:i] {
			if other.Name == a.Name {
				return api.Fault{Code: api.ErrAgain, At: a.At}
			}
		}
		if f := modelAuto(a); f.Code != api.OK {
			return f
		}
	}
	for i, b := range s.Binds {
		for _, other := range s.Binds[:i] {
			if other.Object == b.Object {
				return api.Fault{Code: api.ErrAgain, At: b.At}
			}
		}
		if !slices.ContainsFunc(s.Autos, func(a api.Auto) bool { return a.Name == b.Auto }) {
			return api.Fault{Code: api.ErrNoAuto, At: b.At}
		}
	}
	return api.Fault{}
}
