package value

import (
	"sextant/api"
	"sextant/text"
)

// Parse reads a text as a value.
func Parse(s string) (v api.Value, fault api.Fault) {
	defer func() {
		if thrown := recover(); thrown != nil {
			v, fault = api.Value{}, thrown.(api.Fault)
		}
	}()
	p := parser{text: s, next: cut(s, 0)}
	v = p.value(1)
	p.expect(kindEnd)
	return v, api.Fault{}
}

// parser reads values; at the first fault it gives up by a panic with it.
type parser struct {
	text  string
	next  token
	parts int
}

func (p *parser) giveUp(code api.Errno, t token) {
	panic(api.Fault{Code: code, At: text.At(p.text, t.off)})
}

func (p *parser) step() { p.next = cut(p.text, p.next.off+len(p.next.text)) }

// skip steps over the next token, if it is of that kind.
func (p *parser) skip(kind rune) bool {
	if p.next.kind != kind {
		return false
	}
	p.step()
	return true
}

func (p *parser) expect(kind rune) {
	if !p.skip(kind) {
		p.giveUp(api.ErrForm, p.next)
	}
}

func (p *parser) value(deep int) api.Value {
	t := p.next
	if !beginsValue(t.kind) {
		p.giveUp(api.ErrForm, t)
	}
	p.parts++
	if p.parts > api.MaxNodes || deep > api.MaxDeep {
		p.giveUp(api.ErrBig, t)
	}
	p.step()
	switch t.kind {
	case '(':
		return api.Value{Kind: api.KTuple, Items: p.tupleItems(deep)}
	case '[':
		return api.Value{Kind: api.KList, Items: p.items(']', deep)}
	case '{':
		return api.Value{Kind: api.KSet, Items: distinct(p.items('}', deep))}
	case kindName:
		return p.name(t)
	case kindGauss:
		return p.gauss(t)
	}
	return Int(p.number(t, t.text))
}

func beginsValue(kind rune) bool {
	switch kind {
	case '(', '[', '{', kindName, kindNumber, kindGauss:
		return true
	}
	return false
}

// tupleItems reads what follows a tuple's opening mark: one item has a comma behind it, more have none behind the last.
func (p *parser) tupleItems(deep int) []api.Value {
	if p.skip(')') {
		return nil
	}
	items := []api.Value{p.value(deep + 1)}
	p.expect(',')
	if p.skip(')') {
		return items
	}
	return p.moreItems(items, ')', deep)
}

func (p *parser) items(closing rune, deep int) []api.Value {
	if p.skip(closing) {
		return nil
	}
	return p.moreItems(nil, closing, deep)
}

// moreItems reads one item or more up to the closing mark, and lays them behind those that there are.
func (p *parser) moreItems(items []api.Value, closing rune, deep int) []api.Value {
	for {
		items = append(items, p.value(deep+1))
		if p.skip(closing) {
			return items
		}
		p.expect(',')
	}
}

func (p *parser) name(t token) api.Value {
	switch t.text {
	case trueText:
		return Bool(true)
	case falseText:
		return Bool(false)
	}
	v, e := Symbol(t.text)
	if e != api.OK { // a name's row can't be at fault but by its length
		p.giveUp(api.ErrWord, t)
	}
	return v
}

// number reads a number that is all of a token, or a piece of it.
func (p *parser) number(t token, piece string) int64 {
	n, e := text.Number(piece)
	if e != api.OK {
		p.giveUp(api.ErrNumber, t)
	}
	return n
}

func (p *parser) gauss(t token) api.Value {
	size := numberSize(t.text)
	re := p.number(t, t.text[:size])
	im := p.number(t, t.text[size+1:len(t.text)-1])
	if t.text[size] == '-' {
		if im == 0 {
			p.giveUp(api.ErrNumber, t)
		}
		im = -im
	}
	v, e := Gauss(re, im)
	if e != api.OK {
		p.giveUp(e, t)
	}
	return v
}
