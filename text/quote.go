package text

import (
	"strings"

	"sextant/api"
)

const (
	quote   = '"'
	escape  = '\\'
	hex     = "0123456789abcdef"
	control = 32 // the first rune that is none of control
	erase   = 127
)

// Quote puts a text in quotes.
func Quote(s string) string {
	var out strings.Builder
	out.WriteByte(quote)
	for at, r := range Runes(s) {
		switch {
		case r == quote || r == escape:
			out.WriteByte(escape)
			out.WriteRune(r)
		case r == lineEnd:
			out.WriteString(`\n`)
		case r < control || r == erase: // a broken one too
			c := s[at.Off]
			out.WriteString(`\x`)
			out.WriteByte(hex[c>>4])
			out.WriteByte(hex[c&15])
		default:
			out.WriteRune(r)
		}
	}
	out.WriteByte(quote)
	return out.String()
}

// Unquote reads what Quote writes, and nothing else.
func Unquote(s string) (string, api.Errno) {
	plain := unescape(inside(s))
	if Quote(plain) != s {
		return "", api.ErrQuote
	}
	return plain, api.OK
}

func inside(s string) string {
	if len(s) < 2 {
		return ""
	}
	return s[1 : len(s)-1]
}

// unescape takes escapes for what they mean. Of a text that is none of Quote's it makes some text, of which Quote writes another.
func unescape(s string) string {
	var out strings.Builder
	next := 0
	for i, r := range s {
		if i < next { // within an escape
			continue
		}
		if r != escape {
			out.WriteRune(r)
			continue
		}
		c, size := escaped(s[i:])
		out.WriteByte(c)
		next = i + size
	}
	return out.String()
}

// escaped tells the byte for which the escape at a text's beginning stands, and how long it is.
func escaped(s string) (byte, int) {
	switch {
	case strings.HasPrefix(s, `\n`):
		return lineEnd, 2
	case strings.HasPrefix(s, `\x`) && len(s) >= 4:
		return digit(s[2])<<4 | digit(s[3]), 4
	case len(s) >= 2:
		return s[1], 2
	}
	return escape, 1
}

func digit(c byte) byte { return byte(strings.IndexByte(hex, c)) }

// Pad puts blanks behind a text.
func Pad(s string, width int) (string, api.Errno) {
	if width < 0 || width > api.MaxWide {
		return "", api.ErrWide
	}
	return s + strings.Repeat(" ", max(width-Width(s), 0)), api.OK
}
