package syntax

import (
	"slices"

	"sextant/api"
)

// parser goes through tokens; at the first fault it gives up by a panic with it.
type parser struct {
	left      []api.Token // what has not been read yet; the end is never read
	operators reader      // an expression of the level that binds least
}

// reader reads an expression that lies within so many others.
type reader func(nest int) api.Expr

func newParser(tokens []api.Token) *parser {
	p := &parser{left: tokens}
	p.operators = p.field
	for _, l := range levels() {
		p.operators = l.over(p, p.operators, l.operators)
	}
	return p
}

func (p *parser) at() api.Spot { return p.left[0].At }

func (p *parser) atEnd() bool { return p.left[0].Kind == api.TokenEnd }

// wrong is the fault of a next token that may not stand there.
func (p *parser) wrong() api.Fault { return api.Fault{Code: api.ErrSyntax, At: p.at()} }

// enter gives up where something begins that lies within too many others of its kind, whatever token stands there.
func (p *parser) enter(nest int) {
	if nest >= api.MaxNest {
		panic(api.Fault{Code: api.ErrNest, At: p.at()})
	}
}

// is tells whether a token is one of these words and marks. (A symbol may have the text of one, and is none.)
func is(t api.Token, words ...string) bool {
	return (t.Kind == api.TokenName || t.Kind == api.TokenMark) && slices.Contains(words, t.Text)
}

func (p *parser) sees(words ...string) bool { return is(p.left[0], words...) }

// step takes the next token, which is known not to be the end.
func (p *parser) step() api.Token {
	t := p.left[0]
	p.left = p.left[1:]
	return t
}

func (p *parser) skip(word string) bool {
	if !p.sees(word) {
		return false
	}
	p.step()
	return true
}

func (p *parser) take(word string) api.Token {
	if !p.sees(word) {
		panic(p.wrong())
	}
	return p.step()
}

func (p *parser) takeKind(kind api.TokenKind) api.Token {
	if p.left[0].Kind != kind {
		panic(p.wrong())
	}
	return p.step()
}

func (p *parser) name() string { return p.takeKind(api.TokenName).Text }

func (p *parser) number() int64 { return p.takeKind(api.TokenInt).Int }

// signed reads a number that may have a minus ahead.
func (p *parser) signed() int64 {
	if p.skip("-") {
		return -p.number()
	}
	return p.number()
}

// items reads what follows an opening mark: items with commas between them, or none, and the closing mark.
func items[T any](p *parser, closing string, nest int, item func(nest int) T) []T {
	if p.skip(closing) {
		return nil
	}
	return more(p, nil, closing, nest, item)
}

// tuple reads what follows the opening mark of a tuple of which one item alone must have a comma behind it.
func tuple[T any](p *parser, nest int, item func(nest int) T) []T {
	if p.skip(")") {
		return nil
	}
	return behindFirst(p, item(nest), nest, item)
}

// behindFirst reads what follows the first item of a tuple.
func behindFirst[T any](p *parser, first T, nest int, item func(nest int) T) []T {
	list := []T{first}
	p.take(",")
	if p.skip(")") {
		return list
	}
	return more(p, list, ")", nest, item)
}

// more reads one item or more up to the closing mark, and lays them behind those that there are.
func more[T any](p *parser, list []T, closing string, nest int, item func(nest int) T) []T {
	for {
		list = append(list, item(nest))
		if p.skip(closing) {
			return list
		}
		p.take(",")
	}
}
