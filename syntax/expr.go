package syntax

import (
	"sextant/api"
	"sextant/value"
)

// level is a level of operators: which they are, and what makes its reader out of that of the level that binds next.
type level struct {
	over      func(p *parser, below reader, operators []string) reader
	operators []string
}

// levels stand from the one that binds most to the one that binds least.
func levels() []level {
	return []level{
		{ahead, []string{"-"}},
		{between, []string{"*", "/", "%"}},
		{between, []string{"+", "-"}},
		{between, []string{"|", "&", `\`}},
		{betweenTwo, []string{"==", "!=", "<", "<=", ">", ">=", "in"}},
		{ahead, []string{"not"}},
		{between, []string{"and"}},
		{between, []string{"or"}},
	}
}

// ahead reads operators that stand ahead of their one operand.
func ahead(p *parser, below reader, operators []string) reader {
	var same reader
	same = func(nest int) api.Expr {
		if !p.sees(operators...) || p.seesNegative() {
			return below(nest)
		}
		t := p.step()
		p.enter(nest + 1)
		return api.Expr{Kind: api.EUnary, At: t.At, Op: t.Text, Items: []api.Expr{same(nest + 1)}}
	}
	return same
}

// between reads operators between operands, grouped from the left.
func between(p *parser, below reader, operators []string) reader {
	return func(nest int) api.Expr {
		e := below(nest)
		for p.sees(operators...) {
			e = p.pair(e, nest, below)
		}
		return e
	}
}

// betweenTwo reads one operator between two operands at most.
func betweenTwo(p *parser, below reader, operators []string) reader {
	return func(nest int) api.Expr {
		e := below(nest)
		if p.sees(operators...) {
			e = p.pair(e, nest, below)
		}
		return e
	}
}

// pair reads an operator and what stands behind it.
func (p *parser) pair(first api.Expr, nest int, operand reader) api.Expr {
	t := p.step()
	return api.Expr{Kind: api.EBin, At: t.At, Op: t.Text, Items: []api.Expr{first, operand(nest)}}
}

func (p *parser) expr(nest int) api.Expr {
	p.enter(nest)
	switch {
	case p.sees("if"):
		return p.choice(nest)
	case p.sees("let"):
		return p.let(nest)
	case p.sees("fold"):
		return p.fold(nest)
	}
	return p.operators(nest)
}

// behind reads a word, and the expression behind it, which lies within that which has the word.
func (p *parser) behind(word string, nest int) api.Expr {
	p.take(word)
	return p.expr(nest + 1)
}

func (p *parser) choice(nest int) api.Expr {
	return api.Expr{Kind: api.EIf, At: p.at(), Items: []api.Expr{
		p.behind("if", nest), p.behind("then", nest), p.behind("else", nest),
	}}
}

func (p *parser) let(nest int) api.Expr {
	return api.Expr{Kind: api.ELet, At: p.take("let").At, Name: p.variable(), Items: []api.Expr{
		p.behind("=", nest), p.behind("do", nest),
	}}
}

func (p *parser) fold(nest int) api.Expr {
	e := api.Expr{Kind: api.EFold, At: p.take("fold").At, Name: p.variable()}
	p.take(",")
	e.Also = p.variable()
	e.Items = []api.Expr{p.behind("over", nest), p.behind("from", nest), p.behind("with", nest)}
	return e
}

// variable reads a name that is a variable's.
func (p *parser) variable() string {
	if isReserved(p.left[0].Text) {
		panic(p.wrong())
	}
	return p.name()
}

func (p *parser) field(nest int) api.Expr {
	e := p.atom(nest)
	for p.sees(".") {
		e = api.Expr{Kind: api.EField, At: p.step().At, Value: value.Int(p.number()), Items: []api.Expr{e}}
	}
	return e
}

// seesNegative tells whether a number below 0 is next, which is one literal.
func (p *parser) seesNegative() bool {
	return p.sees("-") && p.left[1].Kind == api.TokenInt
}

// atom takes a number below 0 for one, too: it stands where no operator is ahead of it, and may have fields.
func (p *parser) atom(nest int) api.Expr {
	t := p.left[0]
	switch {
	case t.Kind == api.TokenInt || p.seesNegative():
		return literal(t.At, value.Int(p.signed()))
	case t.Kind == api.TokenSym:
		p.step()
		v, _ := value.Symbol(t.Text) // what layer 9 takes for a symbol's name is one
		return literal(t.At, v)
	case t.Kind == api.TokenName:
		return p.word(nest)
	case p.skip("("):
		return p.round(t.At, nest)
	case p.skip("["):
		return api.Expr{Kind: api.EList, At: t.At, Items: items(p, "]", nest+1, p.expr)}
	case p.skip("{"):
		return api.Expr{Kind: api.ESet, At: t.At, Items: items(p, "}", nest+1, p.expr)}
	}
	panic(p.wrong())
}

func literal(at api.Spot, v api.Value) api.Expr {
	return api.Expr{Kind: api.ELit, At: at, Value: v}
}

// word reads a truth, a call, or a variable.
func (p *parser) word(nest int) api.Expr {
	t := p.left[0]
	switch {
	case is(t, "true", "false"):
		p.step()
		return literal(t.At, value.Bool(t.Text == "true"))
	case is(p.left[1], "(") && !is(t, "if", "let", "fold", "not"):
		p.step()
		p.step()
		return api.Expr{Kind: api.ECall, At: t.At, Op: t.Text, Items: items(p, ")", nest+1, p.expr)}
	}
	return api.Expr{Kind: api.EName, At: t.At, Name: p.variable()}
}

// round reads what follows a round bracket at this place.
func (p *parser) round(at api.Spot, nest int) api.Expr {
	if p.skip(")") {
		return api.Expr{Kind: api.ETuple, At: at}
	}
	first := p.expr(nest + 1)
	if p.skip(")") {
		return first
	}
	return api.Expr{Kind: api.ETuple, At: at, Items: behindFirst(p, first, nest+1, p.expr)}
}
