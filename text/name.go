package text

import (
	"strconv"
	"strings"

	"sextant/api"
)

// span is a row of neighbouring runes, both ends among them.
type span struct{ low, high rune }

// letters leave out ×, ÷, and the place that Greek's capitals keep free.
var letters = [...]span{
	{'A', 'Z'},
	{'_', '_'},
	{'a', 'z'},
	{0x00C0, 0x00D6},
	{0x00D8, 0x00F6},
	{0x00F8, 0x024F},
	{0x0391, 0x03A1},
	{0x03A3, 0x03C9},
}

// Letter tells whether a rune is a letter.
func Letter(r rune) bool {
	for _, l := range letters {
		if l.low <= r && r <= l.high {
			return true
		}
	}
	return false
}

// Name tells whether a text is a name.
func Name(s string) api.Errno {
	if s == "" || Width(s) > api.MaxName {
		return api.ErrWord
	}
	for i, r := range s {
		if !Letter(r) && (i == 0 || !mayFollow(r)) {
			return api.ErrWord
		}
	}
	return api.OK
}

func mayFollow(r rune) bool { return '0' <= r && r <= '9' || r == '\'' }

// Number reads what Decimal writes, and nothing else.
func Number(s string) (int64, api.Errno) {
	n := wrapped(s)
	if Decimal(n) != s {
		return 0, api.ErrNumber
	}
	return n, api.OK
}

// wrapped reckons a text's digits together, modulo 2^64. Of a text that is no number it is some number, of which another text is written.
func wrapped(s string) int64 {
	digits, below := strings.CutPrefix(s, "-")
	n := int64(0)
	for _, r := range digits {
		n = n*10 + int64(r-'0')
	}
	if below {
		return -n
	}
	return n
}

// Decimal writes a number.
func Decimal(n int64) string { return strconv.FormatInt(n, 10) }
