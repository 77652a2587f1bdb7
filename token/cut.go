package token

import (
	"strings"
	"unicode/utf8"

	"sextant/api"
	"sextant/text"
)

const (
	lineEnd = '\n'
	remark  = "//"
	sign    = "#" // of a symbol
)

// marks stand in such an order that the first with which a text begins is the longest.
var marks = [...]string{
	"==", "!=", "<=", ">=",
	"(", ")", "[", "]", "{", "}", ",", ";", ".", "+", "-", "*", "/", "%", "|", "&", "\\", "<", ">", "=",
}

// cut answers the token with which a text begins, without its place, and how many bytes it has. Of a blank, a comment and the empty text the token is the zero one.
func cut(s string) (api.Token, int, api.Errno) {
	if s == "" {
		return api.Token{}, 0, api.OK
	}
	r, _ := utf8.DecodeRuneInString(s)
	switch {
	case blank(r):
		return api.Token{}, 1, api.OK
	case strings.HasPrefix(s, remark):
		return api.Token{}, rowOf(s, inLine), api.OK
	case text.Letter(r):
		return name(s)
	case digit(r):
		return number(s)
	case strings.HasPrefix(s, sign):
		return symbol(s)
	}
	return mark(s)
}

func name(s string) (api.Token, int, api.Errno) {
	size := rowOf(s, inName)
	if text.Name(s[:size]) != api.OK {
		return api.Token{}, 0, api.ErrWord
	}
	return api.Token{Kind: api.TokenName, Text: s[:size]}, size, api.OK
}

func number(s string) (api.Token, int, api.Errno) {
	size := rowOf(s, inName)
	n, e := text.Number(s[:size])
	if e != api.OK {
		return api.Token{}, 0, api.ErrNumber
	}
	return api.Token{Kind: api.TokenInt, Int: n}, size, api.OK
}

// symbol leaves out what layer 4 takes for truths, which are no symbols' names.
func symbol(s string) (api.Token, int, api.Errno) {
	rest := s[len(sign):]
	if rowOf(rest, text.Letter) == 0 {
		return api.Token{}, 0, api.ErrSpec
	}
	t, size, e := name(rest)
	if e != api.OK || t.Text == "true" || t.Text == "false" {
		return api.Token{}, 0, api.ErrWord
	}
	return api.Token{Kind: api.TokenSym, Text: t.Text}, len(sign) + size, api.OK
}

func mark(s string) (api.Token, int, api.Errno) {
	for _, m := range marks {
		if strings.HasPrefix(s, m) {
			return api.Token{Kind: api.TokenMark, Text: m}, len(m), api.OK
		}
	}
	return api.Token{}, 0, api.ErrSpec
}

// rowOf tells how many bytes the runes of one sort have with which a text begins.
func rowOf(s string, sort func(rune) bool) int {
	for i, r := range s {
		if !sort(r) {
			return i
		}
	}
	return len(s)
}

func blank(r rune) bool { return r == ' ' || r == '\t' || r == lineEnd || r == '\r' }

func inLine(r rune) bool { return r != lineEnd }

func digit(r rune) bool { return '0' <= r && r <= '9' }

func inName(r rune) bool { return text.Letter(r) || digit(r) || r == '\'' }
