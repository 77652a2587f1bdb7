package text_test

import (
	"encoding/hex"
	"math"
	"strings"
	"testing"

	"sextant/api"
	"sextant/text"
)

// quoted writes a text in quotes in the words of P2.9.
func quoted(s string) string {
	starts, runes := decode(s)
	out := ""
	for i, r := range runes {
		switch at := starts[i]; {
		case r == '"':
			out += "\\\""
		case r == '\\':
			out += "\\\\"
		case r == 10:
			out += "\\n"
		case r == -1, r < 32, r == 127:
			out += "\\x" + hex.EncodeToString([]byte{s[at]})
		default:
			out += string(r)
		}
	}
	return "\"" + out + "\""
}

// P2.9

func TestQuote(t *testing.T) {
	for _, x := range []struct{ s, want string }{
		{"a\"β\x00\xff", `"a\"β\x00\xff"`},
		{"", `""`},
		{"\\", `"\\"`},
		{"\n\r\t\x1f\x7f ~", `"\n\x0d\x09\x1f\x7f ~"`},
		{"\u0080\u009f\u00a0\u2028\ufeff", "\"\u0080\u009f\u00a0\u2028\ufeff\""},
		{"\uFFFD\xef\xbf", "\"\uFFFD\\xef\\xbf\""},
		{"😀\xf0\x9f\x98", `"😀\xf0\x9f\x98"`},
		{"\xed\xa0\x80", `"\xed\xa0\x80"`},
		{"'`\\n", "\"'`\\\\n\""},
	} {
		if got := text.Quote(x.s); got != x.want {
			t.Errorf("Quote(%q) = %s, want %s", x.s, got, x.want)
		}
	}
}

func TestQuoteAndBack(t *testing.T) {
	both := func(s string) {
		q := text.Quote(s)
		if want := quoted(s); q != want {
			t.Errorf("Quote(%q) = %s, want %s", s, q, want)
		}
		if u, e := text.Unquote(q); u != s || e != api.OK {
			t.Errorf("Unquote(%s) = %q, %d, want %q", q, u, e, s)
		}
	}
	for r := range rune(0x3000) {
		both(string(r))
	}
	for a := range 256 {
		for b := range 256 {
			both(string([]byte{byte(a), byte(b)}))
		}
	}
	for s := range samples() {
		both(s)
	}
	for s := range everyText(5, "\\", "\"", "x", "n", "4", "\n", "\xff") {
		both(s)
	}
}

func TestUnquoteRefusesWhatQuoteNeverWrites(t *testing.T) {
	for _, s := range []string{
		`"\x41"`, // Quote writes A itself
		``, `"`, `a`, `ab`, `"a`, `a"`, `'a'`, `"a" `, ` "a"`, `"a"b`, `"a"b"`, `"""`, `"""" `, "`a`",
		`"\"`, `"\\\"`, `"\`, `"\x"`, `"\x0"`, `"\x0g"`, `"\xg0"`, `"\x 0"`, `"\x0A"`, `"\x0a"`, `"\xFF"`, `"\XFF"`, `"\x22"`, `"\x5c"`, `"\x20"`, `"\x7e"`, `"\x00`, `"\x0`, `"\x00a`,
		`"\t"`, `"\r"`, `"\a"`, `"\0"`, `"\'"`, `"\u0041"`, `"\N"`, `"\` + "\n\"", `"\λ"`,
		"\"\n\"", "\"\x00\"", "\"\t\"", "\"\x7f\"", "\"\xff\"", "\"\xce\"",
		`"\xce\xb2"`,       // together a rune
		"\"\\xce\xb2\"",    // half of it raw
		"\"\xce\\xb2\"",    // the other half
		`"\xe2\x82\xac"`,   // of three bytes
		`"\xef\xbf\xbd"`,   // the replacement itself
		"\"a\x00\"", "\"a", // cut off
	} {
		if u, e := text.Unquote(s); u != "" || e != api.ErrQuote {
			t.Errorf("Unquote(%q) = %q, %d", s, u, e)
		}
	}
	if api.ErrQuote != 24 {
		t.Error("ErrQuote is another")
	}
}

// What Unquote takes, Quote writes: with TestQuoteAndBack that says it all.
func TestUnquoteTakesNothingElse(t *testing.T) {
	taken := 0
	try := func(s string) {
		u, e := text.Unquote(s)
		switch {
		case e == api.OK && quoted(u) == s:
			taken++
		case e != api.ErrQuote || u != "":
			t.Errorf("Unquote(%q) = %q, %d", s, u, e)
		}
	}
	for s := range everyText(4, "\\", "\"", "x", "n", "0", "f", "A", "\xff", "λ", "\n") {
		try(s)
		try("\"" + s + "\"")
		try("\"\\x" + s + "\"")
	}
	for s := range samples() {
		try(s)
		try("\"" + s + "\"")
	}
	if taken < 1000 {
		t.Error("hardly any was taken:", taken)
	}
}

// P2.10

func TestPad(t *testing.T) {
	for _, x := range []struct {
		s     string
		width int
		want  string
	}{
		{"β", 3, "β  "}, {"", 0, ""}, {"", 2, "  "}, {"abc", 0, "abc"}, {"abc", 2, "abc"}, {"abc", 3, "abc"}, {"abc", 4, "abc "},
		{"\xff\xff", 3, "\xff\xff "}, {"€😀", 4, "€😀  "}, {"a\nb", 5, "a\nb  "}, {"a ", 3, "a  "}, {"\uFFFD", 2, "\uFFFD "},
	} {
		if got, e := text.Pad(x.s, x.width); got != x.want || e != api.OK {
			t.Errorf("Pad(%q, %d) = %q, %d", x.s, x.width, got, e)
		}
	}
	if got, e := text.Pad("λ", 4096); got != "λ"+strings.Repeat(" ", 4095) || e != api.OK {
		t.Error("Pad to the greatest width:", len(got), e)
	}
	long := strings.Repeat("λ", 5000)
	if got, e := text.Pad(long, 4096); got != long || e != api.OK {
		t.Error("Pad of a text that is wider:", len(got), e)
	}
}

func TestPadRefusesWidths(t *testing.T) {
	for _, width := range []int{-1, 4097, math.MinInt, math.MaxInt} {
		for _, s := range []string{"", "a", strings.Repeat("a", 5000)} {
			if got, e := text.Pad(s, width); got != "" || e != api.ErrWide {
				t.Errorf("Pad(.., %d) = %q, %d", width, got, e)
			}
		}
	}
	if api.ErrWide != 23 || api.MaxWide != 4096 {
		t.Error("ErrWide or MaxWide is another")
	}
}
