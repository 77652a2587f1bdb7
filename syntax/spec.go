package syntax

import (
	"sextant/api"
	"sextant/value"
)

func (p *parser) spec() api.Spec {
	var s api.Spec
	for !p.atEnd() {
		switch {
		case p.sees("automaton", "table"):
			s.Autos = append(s.Autos, p.auto())
		case p.sees("object"):
			s.Binds = append(s.Binds, p.bind())
		default:
			panic(p.wrong())
		}
	}
	return s
}

func (p *parser) bind() api.Bind {
	b := api.Bind{At: p.take("object").At, Object: p.name()}
	p.take("is")
	b.Auto = p.name()
	p.take(";")
	return b
}

// auto reads an automaton of rules, or a table.
func (p *parser) auto() api.Auto {
	t := p.step()
	a := api.Auto{At: t.At, Table: t.Text == "table", Name: p.name(), Mode: p.mode()}
	p.take("arg")
	a.Arg = p.sort(0)
	p.take("reply")
	a.Reply = p.sort(0)
	p.take("state")
	a.State = p.sort(0)
	p.take("start")
	a.Start = p.expr(0)
	p.take("{")
	for !p.skip("}") {
		if a.Table {
			a.Rows = append(a.Rows, p.row())
		} else {
			a.Rules = append(a.Rules, p.rule())
		}
	}
	return a
}

func (p *parser) mode() api.Mode {
	switch {
	case p.skip("linear"):
		return api.MLinear
	case p.skip("set"):
		return api.MSet
	case p.skip("interval"):
		return api.MInterval
	}
	panic(p.wrong())
}

func (p *parser) rule() api.Rule {
	r := api.Rule{At: p.take("rule").At, Name: p.name()}
	for further := p.skip("for"); further; further = p.skip(",") {
		r.Gens = append(r.Gens, p.gen())
	}
	r.When = literal(p.at(), value.Bool(true)) // at `give`, unless there is a `when`
	if p.skip("when") {
		r.When = p.expr(0)
	}
	p.take("give")
	r.Give = p.expr(0)
	p.take("next")
	r.Next = p.expr(0)
	p.take(";")
	return r
}

func (p *parser) gen() api.Gen {
	g := api.Gen{At: p.at(), Name: p.variable()}
	p.take("in")
	g.From = p.expr(0)
	return g
}

func (p *parser) row() api.Row {
	r := api.Row{At: p.take("row").At, From: p.rowValue(0)}
	p.take("{")
	r.Calls = more(p, nil, "}", 0, p.call)
	p.take("gives")
	p.take("{")
	r.Replies = more(p, nil, "}", 0, p.reply)
	p.take("next")
	r.To = p.rowValue(0)
	p.take(";")
	return r
}

func (p *parser) call(nest int) api.RowCall {
	return api.RowCall{Who: p.name(), Op: p.name(), Arg: p.rowValue(nest)}
}

func (p *parser) reply(nest int) api.RowReply {
	return api.RowReply{Who: p.name(), Value: p.rowValue(nest)}
}

func (p *parser) sort(nest int) api.Sort {
	p.enter(nest)
	switch {
	case p.skip("int"):
		return api.Sort{Kind: api.SInt}
	case p.skip("bool"):
		return api.Sort{Kind: api.SBool}
	case p.skip("symbol"):
		return api.Sort{Kind: api.SSym}
	case p.skip("gauss"):
		return api.Sort{Kind: api.SGauss}
	case p.skip("list"):
		return api.Sort{Kind: api.SList, Items: []api.Sort{p.sort(nest + 1)}}
	case p.skip("set"):
		return api.Sort{Kind: api.SSet, Items: []api.Sort{p.sort(nest + 1)}}
	case p.skip("("):
		return api.Sort{Kind: api.STuple, Items: tuple(p, nest+1, p.sort)}
	}
	panic(p.wrong())
}

// rowValue reads a value of a row. One that is above the limits of layer 4 is told at its first token, but read to its end ahead of that: what else is wrong within it comes first.
func (p *parser) rowValue(nest int) api.Value {
	at := p.at()
	v := p.value(nest)
	if value.Check(v) != api.OK {
		panic(api.Fault{Code: api.ErrBig, At: at})
	}
	return v
}

// value reads a value of a row, or an item of one. What layer 4 does not make, since it is above the limits, is a zero value here: that is not right, and nothing is that has one for an item.
func (p *parser) value(nest int) (v api.Value) {
	p.enter(nest)
	t := p.left[0]
	switch {
	case t.Kind == api.TokenInt || p.sees("-"):
		v = value.Int(p.signed())
	case t.Kind == api.TokenSym:
		v, _ = value.Symbol(p.step().Text)
	case p.sees("true", "false"):
		v = value.Bool(p.step().Text == "true")
	case p.sees("gauss"):
		v = p.gauss()
	case p.skip("("):
		v, _ = value.Tuple(tuple(p, nest+1, p.value)...)
	case p.skip("["):
		v, _ = value.List(items(p, "]", nest+1, p.value)...)
	case p.skip("{"):
		v, _ = value.Set(items(p, "}", nest+1, p.value)...)
	default:
		panic(p.wrong())
	}
	return v
}

// gauss tells a part that is out of range at its own first token, wherever in a row's value it stands.
func (p *parser) gauss() api.Value {
	at := p.take("gauss").At
	p.take("(")
	re := p.signed()
	p.take(",")
	im := p.signed()
	p.take(")")
	v, e := value.Gauss(re, im)
	if e != api.OK {
		panic(api.Fault{Code: e, At: at})
	}
	return v
}
