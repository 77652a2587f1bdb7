package sorts_test

import (
	"math/rand"
	"slices"
	"strings"

	"sextant/api"
	"sextant/arith"
	"sextant/sorts"
	"sextant/value"
)

// gen makes expressions by chance that have sorts, in a scope of names.
type gen struct {
	rnd   *rand.Rand
	names []string
	sorts []api.Sort
}

func (g *gen) bind(name string, s api.Sort) *gen {
	return &gen{g.rnd, append(slices.Clone(g.names), name), append(slices.Clone(g.sorts), s)}
}

func (g *gen) name() string { return pick(g.rnd, []string{"x", "a", "state", "y'", "true"}) }

// someSort answers a small right sort.
func (g *gen) someSort() api.Sort { return anySort(g.rnd, api.SInt, g.rnd.Intn(3)) }

// of answers an expression whose sort lies within another, of at most so many levels.
func (g *gen) of(s api.Sort, deep int) api.Expr {
	if deep <= 0 {
		return g.leaf(s)
	}
	if g.rnd.Intn(3) == 0 {
		return g.any(s, deep-1)
	}
	in := func(s api.Sort) api.Expr { return g.of(s, deep-1) }
	some := g.someSort()
	switch s.Kind {
	case api.SInt:
		return g.oneOf(
			func() api.Expr { return pair(in(s), pick(g.rnd, strings.Fields("+ - * / %")), in(s)) },
			func() api.Expr { return unary("-", in(s)) },
			func() api.Expr { return call("size", in(sortOf(pick(g.rnd, []api.SortKind{6, 7}), some))) },
			func() api.Expr { return call(pick(g.rnd, []string{"re", "im", "norm"}), in(so("gauss"))) })
	case api.SBool:
		return g.oneOf(
			func() api.Expr { return pair(in(some), pick(g.rnd, strings.Fields("== != < <= > >=")), in(some)) },
			func() api.Expr { return pair(in(s), pick(g.rnd, []string{"and", "or"}), in(s)) },
			func() api.Expr {
				return pair(in(some), "in", in(sortOf(pick(g.rnd, []api.SortKind{6, 7}), some)))
			},
			func() api.Expr { return unary("not", in(s)) })
	case api.SGauss:
		return g.oneOf(
			func() api.Expr { return call("gauss", in(so("int")), in(so("int"))) },
			func() api.Expr { return call(pick(g.rnd, []string{"conj", "turn"}), in(s)) },
			func() api.Expr { return unary("-", in(s)) },
			func() api.Expr { return pair(in(s), pick(g.rnd, []string{"+", "-", "*"}), in(s)) })
	case api.STuple:
		e := of(api.ETuple)
		for _, item := range s.Items {
			e.Items = append(e.Items, in(item))
		}
		return e
	case api.SList:
		return g.list(s, in)
	case api.SSet:
		return g.set(s, in)
	}
	return g.leaf(s)
}

func (g *gen) list(s api.Sort, in func(api.Sort) api.Expr) api.Expr {
	item := s.Items[0]
	return g.oneOf(
		func() api.Expr { return of(api.EList, many(g.rnd, 0, 3, func() api.Expr { return in(item) })...) },
		func() api.Expr { return pair(in(s), "+", in(s)) },
		func() api.Expr { return call("push", in(s), in(item)) },
		func() api.Expr { return call("put", in(s), in(so("int")), in(item)) },
		func() api.Expr { return call("tail", in(s)) },
		func() api.Expr { return call("list", in(setOf(item))) },
		func() api.Expr {
			if item.Kind != api.SInt {
				return in(s)
			}
			return call("range", in(item), in(item))
		})
}

func (g *gen) set(s api.Sort, in func(api.Sort) api.Expr) api.Expr {
	item := s.Items[0]
	return g.oneOf(
		func() api.Expr { return of(api.ESet, many(g.rnd, 0, 3, func() api.Expr { return in(item) })...) },
		func() api.Expr { return pair(in(s), pick(g.rnd, []string{"|", "&", `\`}), in(s)) },
		func() api.Expr { return call(pick(g.rnd, []string{"with", "without"}), in(s), in(item)) },
		func() api.Expr { return call("set", in(listOf(item))) },
		func() api.Expr {
			if item.Kind != api.SSet {
				return in(s)
			}
			return call("subsets", in(item))
		})
}

// any answers an expression of a form that may have any sort.
func (g *gen) any(s api.Sort, deep int) api.Expr {
	in := func(s api.Sort) api.Expr { return g.of(s, deep) }
	row := sortOf(pick(g.rnd, []api.SortKind{api.SList, api.SSet}), g.someSort())
	name, also := g.name(), g.name()
	return g.oneOf(
		func() api.Expr { return of(api.EIf, in(so("bool")), in(s), in(s)) },
		func() api.Expr {
			bound := g.someSort()
			return let(name, in(bound), g.bind(name, bound).of(s, deep))
		},
		func() api.Expr { return call(pick(g.rnd, []string{"head", "last", "min", "max"}), in(listOf(s))) },
		func() api.Expr { return call(pick(g.rnd, []string{"min", "max"}), in(setOf(s))) },
		func() api.Expr { return call("at", in(listOf(s)), in(so("int"))) },
		func() api.Expr {
			items := many(g.rnd, 1, 3, g.someSort)
			i := g.rnd.Intn(len(items))
			items[i] = s
			return field(in(tupleOf(items...)), int64(i))
		},
		func() api.Expr {
			return fold(name, also, in(row), in(s), g.bind(name, row.Items[0]).bind(also, s).of(s, deep))
		})
}

func (g *gen) oneOf(ways ...func() api.Expr) api.Expr { return pick(g.rnd, ways)() }

// leaf answers a name, a literal, what is of SNone, or what is written out.
func (g *gen) leaf(s api.Sort) api.Expr {
	var names []api.Expr
	for i, n := range g.names {
		if !slices.Contains(g.names[i+1:], n) && modelWithin(g.sorts[i], s) {
			names = append(names, name(n))
		}
	}
	if len(names) > 0 && g.rnd.Intn(2) == 0 {
		return pick(g.rnd, names)
	}
	if !hasValue(s) || g.rnd.Intn(12) == 0 {
		return pick(g.rnd, []api.Expr{call("head", of(api.EList)), call("max", of(api.ESet)), field(call("last", of(api.EList)), 3)})
	}
	return lit(anyOf(g.rnd, s))
}

// spoil changes one thing of an expression, or of one that lies in it.
func (g *gen) spoil(e *api.Expr) {
	for len(e.Items) > 0 && g.rnd.Intn(4) > 0 {
		e = &e.Items[g.rnd.Intn(len(e.Items))]
	}
	switch g.rnd.Intn(7) {
	case 0:
		*e = g.of(g.someSort(), 1)
	case 1:
		e.Kind = api.ExprKind(g.rnd.Intn(15) - 1)
	case 2:
		e.Name = pick(g.rnd, []string{"", "z", "x", "1", "a"})
	case 3:
		e.Op = pick(g.rnd, []string{"", "-", "not", "+", "*", "and", "in", "|", "<", "size", "head", "with", "min", "turn", "put"})
	case 4:
		e.Value = pick(g.rnd, []api.Value{{}, integer(1), integer(-1), boolean(1), boolean(2), sym("b"), rowOf(api.KList), rowOf(api.KTuple, integer(0))})
	case 5:
		e.Items = slices.Concat(e.Items, []api.Expr{number(2)})
	case 6:
		if len(e.Items) > 0 {
			e.Items = e.Items[1:]
		}
	}
}

// scope answers a scope by chance, and values of its names.
func anyScope(rnd *rand.Rand) (*gen, []api.Value) {
	g := &gen{rnd: rnd}
	var values []api.Value
	for range rnd.Intn(4) {
		s := anySort(rnd, api.SInt, 2)
		v := anyOf(rnd, s)
		if rnd.Intn(3) == 0 {
			s, _ = sorts.Of(v)
		}
		g = g.bind(g.name(), s)
		values = append(values, v)
	}
	return g, values
}

// machine works expressions out, as layer 13 says; it is stuck where that takes too long.
type machine struct {
	names  []string
	values []api.Value
	work   *int
}

func (m machine) with(name string, v api.Value) machine {
	return machine{append(slices.Clone(m.names), name), append(slices.Clone(m.values), v), m.work}
}

func (m machine) eval(e api.Expr) (api.Value, api.Errno) {
	if *m.work--; *m.work < 0 {
		return api.Value{}, api.ErrStuck
	}
	switch e.Kind {
	case api.ELit:
		return e.Value, api.OK
	case api.EName:
		for i, n := range slices.Backward(m.names) {
			if n == e.Name {
				return m.values[i], api.OK
			}
		}
		return api.Value{}, api.ErrName
	case api.ELet:
		v, c := m.eval(e.Items[0])
		if c != api.OK {
			return api.Value{}, c
		}
		return m.with(e.Name, v).eval(e.Items[1])
	case api.EIf:
		v, c := m.truth(e.Items[0])
		if c != api.OK {
			return api.Value{}, c
		}
		return m.eval(e.Items[2-v.Int])
	case api.EFold:
		return m.fold(e)
	case api.EBin:
		if decided := map[string]int64{"and": 0, "or": 1}; e.Op == "and" || e.Op == "or" {
			v, c := m.truth(e.Items[0])
			if c != api.OK || v.Int == decided[e.Op] {
				return v, c
			}
			return m.truth(e.Items[1])
		}
	}
	var items []api.Value
	for _, item := range e.Items {
		v, c := m.eval(item)
		if c != api.OK {
			return api.Value{}, c
		}
		items = append(items, v)
	}
	return m.ofItems(e, items)
}

func (m machine) truth(e api.Expr) (api.Value, api.Errno) {
	v, c := m.eval(e)
	if c == api.OK && v.Kind != api.KBool {
		return api.Value{}, api.ErrSort
	}
	return v, c
}

func (m machine) fold(e api.Expr) (api.Value, api.Errno) {
	over, c := m.eval(e.Items[0])
	if c == api.OK && over.Kind != api.KList && over.Kind != api.KSet {
		c = api.ErrSort
	}
	if c != api.OK {
		return api.Value{}, c
	}
	v, c := m.eval(e.Items[1])
	for _, item := range over.Items {
		if c != api.OK {
			break
		}
		v, c = m.with(e.Name, item).with(e.Also, v).eval(e.Items[2])
	}
	return v, c
}

func (m machine) ofItems(e api.Expr, items []api.Value) (api.Value, api.Errno) {
	var v api.Value
	c := api.OK
	switch e.Kind {
	case api.ETuple:
		v, c = value.Tuple(items...)
	case api.EList:
		v, c = value.List(items...)
	case api.ESet:
		v, c = value.Set(items...)
	case api.EUnary:
		return arith.Unary(e.Op, items[0])
	case api.EBin:
		return arith.Binary(e.Op, items[0], items[1])
	case api.EField:
		return arith.Field(items[0], int(e.Value.Int))
	case api.ECall:
		return arith.Call(e.Op, items)
	}
	if c != api.OK {
		return api.Value{}, api.ErrStuck
	}
	return v, c
}
