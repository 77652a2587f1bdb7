package value

import (
	"strings"

	"sextant/text"
)

// The kinds of tokens; a mark's kind is the mark itself.
const (
	kindEnd    = -1 // the text's end
	kindNone   = -2 // a rune that begins no token
	kindName   = 'a'
	kindNumber = '0'
	kindGauss  = 'i'
)

const marks = "()[]{},"

type token struct {
	kind rune
	off  int
	text string
}

// cut answers the token that follows the first off bytes of a text. It finds no fault with a name's or a number's row: whether a token may stand there at all comes first.
func cut(s string, off int) token {
	off += rowOf(s[off:], blank)
	rest := s[off:]
	if rest == "" {
		return token{kind: kindEnd, off: off}
	}
	if strings.IndexByte(marks, rest[0]) >= 0 {
		return token{kind: rune(rest[0]), off: off, text: rest[:1]}
	}
	if rowOf(rest, text.Letter) > 0 {
		return token{kind: kindName, off: off, text: rest[:rowOf(rest, inName)]}
	}
	size := numberSize(rest)
	if size == 0 {
		return token{kind: kindNone, off: off}
	}
	if more := imaginarySize(rest[size:]); more > 0 {
		return token{kind: kindGauss, off: off, text: rest[:size+more]}
	}
	return token{kind: kindNumber, off: off, text: rest[:size]}
}

// numberSize tells how many bytes the number's row has with which a text begins; 0, if it begins with none.
func numberSize(s string) int {
	digits := strings.TrimPrefix(s, "-")
	size := rowOf(digits, digit)
	if size == 0 {
		return 0
	}
	return len(s) - len(digits) + size
}

// imaginarySize tells how many bytes a sign, digits and an i at the beginning of a text have; 0, if they do not stand there.
func imaginarySize(s string) int {
	if s == "" || s[0] != '+' && s[0] != '-' {
		return 0
	}
	size := rowOf(s[1:], digit)
	if size == 0 || !strings.HasPrefix(s[1+size:], "i") {
		return 0
	}
	return 1 + size + 1
}

// rowOf tells how many bytes the runes of one sort have with which a text begins.
func rowOf(s string, sort func(rune) bool) int {
	for i, r := range s {
		if !sort(r) {
			return i
		}
	}
	return len(s)
}

func blank(r rune) bool { return r == ' ' || r == '\t' }

func digit(r rune) bool { return '0' <= r && r <= '9' }

func inName(r rune) bool { return text.Letter(r) || digit(r) || r == '\'' }
