package token_test

import (
	"math"
	"math/rand"
	"slices"
	"strings"
	"testing"

	"sextant/api"
	"sextant/token"
)

func TestErrorNumbers(t *testing.T) {
	if api.ErrSpec != 90 || api.ErrWord != 21 || api.ErrNumber != 22 || api.ErrArg != 2 || api.MaxName != 32 {
		t.Error("an error's number, or MaxName, is another")
	}
}

// holdScan fails unless Scan answers what the model says.
func holdScan(t *testing.T, s string) {
	t.Helper()
	want, fault := modelScan(s)
	if got, f := token.Scan(s); f != fault || !slices.Equal(got, want) {
		t.Fatalf("Scan(%q) = %v, %v, want %v, %v", s, got, f, want, fault)
	}
}

// P9.1

func TestScanGivesTokens(t *testing.T) {
	for _, x := range []struct {
		s    string
		want []api.Token
	}{
		{"x' <= 10 // y", []api.Token{named("x'"), mark("<="), number(10)}},
		{"a<=b", []api.Token{named("a"), mark("<="), named("b")}},
		{"a< =b", []api.Token{named("a"), mark("<"), mark("="), named("b")}},
		{"#ok", []api.Token{symbol("ok")}},
		{"é", []api.Token{named("é")}},
		{"", nil},
		{" \t\r\n", nil},
		{"//", nil},
		{"///", nil},
		{"// a\n", nil},
		{"//\n//\n\n//", nil},
		{"a//b\nc", []api.Token{named("a"), named("c")}},
		{"a//b\rc", []api.Token{named("a")}},
		{"a//b//c\n#d//", []api.Token{named("a"), symbol("d")}},
		{"a/b", []api.Token{named("a"), mark("/"), named("b")}},
		{"a/ /b", []api.Token{named("a"), mark("/"), mark("/"), named("b")}},
		{"a/\n/b", []api.Token{named("a"), mark("/"), mark("/"), named("b")}},
		{"/ //", []api.Token{mark("/")}},
		{"/* */", []api.Token{mark("/"), mark("*"), mark("*"), mark("/")}},
		{"true false #true' #truely #True", []api.Token{named("true"), named("false"), symbol("true'"), symbol("truely"), symbol("True")}},
		{"a#b#c", []api.Token{named("a"), symbol("b"), symbol("c")}},
		{"#λ'1 #_", []api.Token{symbol("λ'1"), symbol("_")}},
		{"#if", []api.Token{symbol("if")}},
		{"a'' _1' Ωa", []api.Token{named("a''"), named("_1'"), named("Ωa")}},
		{"0 1 10 9223372036854775807", []api.Token{number(0), number(1), number(10), number(math.MaxInt64)}},
		{"-0 -9", []api.Token{mark("-"), number(0), mark("-"), number(9)}},
		{"x.0.1", []api.Token{named("x"), mark("."), number(0), mark("."), number(1)}},
		{"1.2", []api.Token{number(1), mark("."), number(2)}},
		{"1#a", []api.Token{number(1), symbol("a")}},
		{"===", []api.Token{mark("=="), mark("=")}},
		{"!==", []api.Token{mark("!="), mark("=")}},
		{"<== >==", []api.Token{mark("<="), mark("="), mark(">="), mark("=")}},
		{"=<=>", []api.Token{mark("="), mark("<="), mark(">")}},
		{"<><<>>", []api.Token{mark("<"), mark(">"), mark("<"), mark("<"), mark(">"), mark(">")}},
		{"= =", []api.Token{mark("="), mark("=")}},
		{"<!=", []api.Token{mark("<"), mark("!=")}},
		{`|&\`, []api.Token{mark("|"), mark("&"), mark(`\`)}},
		{strings.Repeat("a", 32), []api.Token{named(strings.Repeat("a", 32))}},
		{"#" + strings.Repeat("Ω", 31) + "'", []api.Token{symbol(strings.Repeat("Ω", 31) + "'")}},
	} {
		if l, f := token.Scan(x.s); f != (api.Fault{}) || !slices.Equal(unplaced(l), ended(x.want)) {
			t.Errorf("Scan(%q) = %v, %v, want %v", x.s, l, f, x.want)
		}
		holdScan(t, x.s)
	}
}

func TestScanGivesEachMark(t *testing.T) {
	if len(allMarks) != 24 {
		t.Fatal("there are other marks:", allMarks)
	}
	for _, m := range allMarks {
		for _, s := range []string{m, " " + m, m + "a", "a" + m, m + " " + m, m + "\n"} {
			holdScan(t, s)
		}
		if l, f := token.Scan(m); f.Code != api.OK || !slices.Equal(unplaced(l), []api.Token{mark(m), end()}) {
			t.Errorf("Scan(%q) = %v, %v", m, l, f)
		}
	}
}

func TestScanTellsPlaces(t *testing.T) {
	l, f := token.Scan("λ1 <=é\n\n\t#ok// é\xff\n 7 //\xce\xff")
	want := []api.Token{
		{Kind: api.TokenName, Text: "λ1", At: api.Spot{Off: 0, Line: 1, Col: 1}},
		{Kind: api.TokenMark, Text: "<=", At: api.Spot{Off: 4, Line: 1, Col: 4}},
		{Kind: api.TokenName, Text: "é", At: api.Spot{Off: 6, Line: 1, Col: 6}},
		{Kind: api.TokenSym, Text: "ok", At: api.Spot{Off: 11, Line: 3, Col: 2}},
		{Kind: api.TokenInt, Int: 7, At: api.Spot{Off: 22, Line: 4, Col: 2}},
		{Kind: api.TokenEnd, At: api.Spot{Off: 28, Line: 4, Col: 8}},
	}
	if f != (api.Fault{}) || !slices.Equal(l, want) {
		t.Errorf("%v, %v, want %v", l, f, want)
	}
	for s, at := range map[string]api.Spot{"": {Line: 1, Col: 1}, "\n": {Off: 1, Line: 2, Col: 1}, "é": {Off: 2, Line: 1, Col: 2}, "a\r": {Off: 2, Line: 1, Col: 3}, "//\n ": {Off: 4, Line: 2, Col: 2}} {
		if l, f := token.Scan(s); f != (api.Fault{}) || len(l) == 0 || l[len(l)-1] != (api.Token{At: at}) {
			t.Errorf("the end of %q: %v, %v", s, l, f)
		}
	}
}

func TestScanFindsTheFirstFault(t *testing.T) {
	long := strings.Repeat("λ", 33)
	for _, x := range []struct {
		s    string
		code api.Errno
		at   api.Spot
	}{
		{"# ok", api.ErrSpec, api.Spot{Off: 0, Line: 1, Col: 1}},
		{"#", api.ErrSpec, api.Spot{Off: 0, Line: 1, Col: 1}},
		{"##a", api.ErrSpec, api.Spot{Off: 0, Line: 1, Col: 1}},
		{"#1", api.ErrSpec, api.Spot{Off: 0, Line: 1, Col: 1}},
		{"#'a", api.ErrSpec, api.Spot{Off: 0, Line: 1, Col: 1}},
		{"#//\na", api.ErrSpec, api.Spot{Off: 0, Line: 1, Col: 1}},
		{"#\xce", api.ErrSpec, api.Spot{Off: 0, Line: 1, Col: 1}},
		{"#×", api.ErrSpec, api.Spot{Off: 0, Line: 1, Col: 1}},
		{`"`, api.ErrSpec, api.Spot{Off: 0, Line: 1, Col: 1}},
		{"!", api.ErrSpec, api.Spot{Off: 0, Line: 1, Col: 1}},
		{"! =", api.ErrSpec, api.Spot{Off: 0, Line: 1, Col: 1}},
		{"=!", api.ErrSpec, api.Spot{Off: 1, Line: 1, Col: 2}},
		{"!!=", api.ErrSpec, api.Spot{Off: 0, Line: 1, Col: 1}},
		{"'a", api.ErrSpec, api.Spot{Off: 0, Line: 1, Col: 1}},
		{"a:b", api.ErrSpec, api.Spot{Off: 1, Line: 1, Col: 2}},
		{"é×", api.ErrSpec, api.Spot{Off: 2, Line: 1, Col: 2}},
		{"a\xff", api.ErrSpec, api.Spot{Off: 1, Line: 1, Col: 2}},
		{"é\xce", api.ErrSpec, api.Spot{Off: 2, Line: 1, Col: 2}},
		{"\uFFFD", api.ErrSpec, api.Spot{Off: 0, Line: 1, Col: 1}},
		{"// \xff\n\xff", api.ErrSpec, api.Spot{Off: 5, Line: 2, Col: 1}},
		{"a\x00", api.ErrSpec, api.Spot{Off: 1, Line: 1, Col: 2}},
		{"a\v", api.ErrSpec, api.Spot{Off: 1, Line: 1, Col: 2}},
		{"a\f", api.ErrSpec, api.Spot{Off: 1, Line: 1, Col: 2}},
		{"a\u00a0b", api.ErrSpec, api.Spot{Off: 1, Line: 1, Col: 2}},
		{"\ufeffa", api.ErrSpec, api.Spot{Off: 0, Line: 1, Col: 1}},
		{"a\u2028", api.ErrSpec, api.Spot{Off: 1, Line: 1, Col: 2}},
		{"1٣", api.ErrSpec, api.Spot{Off: 1, Line: 1, Col: 2}},
		{" \n" + long, api.ErrWord, api.Spot{Off: 2, Line: 2, Col: 1}},
		{strings.Repeat("a", 33), api.ErrWord, api.Spot{Off: 0, Line: 1, Col: 1}},
		{strings.Repeat("a", 32) + "'", api.ErrWord, api.Spot{Off: 0, Line: 1, Col: 1}},
		{"é #" + long, api.ErrWord, api.Spot{Off: 3, Line: 1, Col: 3}},
		{"#" + strings.Repeat("a", 33), api.ErrWord, api.Spot{Off: 0, Line: 1, Col: 1}},
		{"#true", api.ErrWord, api.Spot{Off: 0, Line: 1, Col: 1}},
		{"a\n #false.", api.ErrWord, api.Spot{Off: 3, Line: 2, Col: 2}},
		{"007", api.ErrNumber, api.Spot{Off: 0, Line: 1, Col: 1}},
		{"00", api.ErrNumber, api.Spot{Off: 0, Line: 1, Col: 1}},
		{"1a", api.ErrNumber, api.Spot{Off: 0, Line: 1, Col: 1}},
		{"-1é", api.ErrNumber, api.Spot{Off: 1, Line: 1, Col: 2}},
		{"1'", api.ErrNumber, api.Spot{Off: 0, Line: 1, Col: 1}},
		{"0x1", api.ErrNumber, api.Spot{Off: 0, Line: 1, Col: 1}},
		{"1_0", api.ErrNumber, api.Spot{Off: 0, Line: 1, Col: 1}},
		{"9223372036854775808", api.ErrNumber, api.Spot{Off: 0, Line: 1, Col: 1}},
		{"-9223372036854775808", api.ErrNumber, api.Spot{Off: 1, Line: 1, Col: 2}},
		{"é.18446744073709551616", api.ErrNumber, api.Spot{Off: 3, Line: 1, Col: 3}},
		{"18446744073709551617", api.ErrNumber, api.Spot{Off: 0, Line: 1, Col: 1}},
		{"1" + strings.Repeat("0", 100), api.ErrNumber, api.Spot{Off: 0, Line: 1, Col: 1}},
		{"a ! 007 #true", api.ErrSpec, api.Spot{Off: 2, Line: 1, Col: 3}},
		{"a 007 ! #true", api.ErrNumber, api.Spot{Off: 2, Line: 1, Col: 3}},
		{"a #true 007 !", api.ErrWord, api.Spot{Off: 2, Line: 1, Col: 3}},
		{"1a!", api.ErrNumber, api.Spot{Off: 0, Line: 1, Col: 1}},
		{long + "!", api.ErrWord, api.Spot{Off: 0, Line: 1, Col: 1}},
	} {
		if l, f := token.Scan(x.s); len(l) != 0 || f != (api.Fault{Code: x.code, At: x.at}) {
			t.Errorf("Scan(%q) = %v, %v, want %d at %v", x.s, l, f, x.code, x.at)
		}
		holdScan(t, x.s)
	}
}

// TestScanLeavesCommentsAlone: nothing in them is a fault or a token, and the byte 10 behind them is none of theirs.
func TestScanLeavesCommentsAlone(t *testing.T) {
	for _, c := range []string{"", " a", "!", "\xff", "#", "#true", "007", "//", "\"", "\r", "\x00", "é", "\uFFFD", "/", strings.Repeat("a", 33)} {
		l, f := token.Scan("a//" + c + "\nb")
		if f != (api.Fault{}) || !slices.Equal(unplaced(l), []api.Token{named("a"), named("b"), end()}) || l[1].At != (api.Spot{Off: len(c) + 4, Line: 2, Col: 1}) {
			t.Errorf("behind the comment %q: %v, %v", c, l, f)
		}
		l, f = token.Scan("a//" + c)
		if f != (api.Fault{}) || !slices.Equal(unplaced(l), []api.Token{named("a"), end()}) {
			t.Errorf("the comment %q at the end: %v, %v", c, l, f)
		}
	}
}

func TestScanOfSmallTexts(t *testing.T) {
	for s := range everyText(4, "a", "Ω", "0", "1", "'", "#", "/", "\n", " ", "=", "<", "!", "\xce", "true") {
		holdScan(t, s)
	}
	for s := range everyText(3, append(strings.Split("()[]{},;.+-*/%|&\\!=<>", ""), "x", "//", "\r", "\t")...) {
		holdScan(t, s)
	}
}

func TestScanOfEachRune(t *testing.T) {
	for r := range rune(0x500) {
		for _, ahead := range []string{"", "a", "#", "#a", "1", "//", "/", "<", "!"} {
			holdScan(t, ahead+string(r)+"b")
		}
	}
	for a := range 256 {
		for b := range 256 {
			holdScan(t, string([]byte{byte(a), byte(b)}))
		}
	}
}

func TestScanOfTextsByChance(t *testing.T) {
	rnd := rand.New(rand.NewSource(9))
	pieces := []string{
		"a", "λ'", "true", "#ok", "#true", "#", "0", "10", "007", "1a", "9223372036854775807", "9223372036854775808", "//", "/", "\n", " ", "\t", "\r", "<", "=", "!=", ">=", "(", "]", "\\", "'", "é", "\xff", "\xce",
		strings.Repeat("a", 32), strings.Repeat("Ω", 33), "#" + strings.Repeat("Ω", 32), "#" + strings.Repeat("a", 33),
	}
	taken := 0
	for range 50000 {
		s := ""
		for range rnd.Intn(12) {
			s += pieces[rnd.Intn(len(pieces))]
		}
		holdScan(t, s)
		if _, f := token.Scan(s); f.Code == api.OK {
			taken++
		}
	}
	if taken < 1000 {
		t.Error("hardly any was taken:", taken)
	}
	for range 5000 {
		b := make([]byte, rnd.Intn(30))
		rnd.Read(b)
		holdScan(t, string(b))
	}
}

// TestScanOfLongTexts would not end, if each piece cost what the whole text has.
func TestScanOfLongTexts(t *testing.T) {
	const n = 1 << 20
	for _, x := range []struct {
		s      string
		tokens int
		code   api.Errno
	}{
		{strings.Repeat(" ", n), 1, api.OK},
		{strings.Repeat("\n", n), 1, api.OK},
		{strings.Repeat("/", n), 1, api.OK},
		{strings.Repeat("//\n", n), 1, api.OK},
		{strings.Repeat("/ ", n), n + 1, api.OK},
		{strings.Repeat("a ", n), n + 1, api.OK},
		{strings.Repeat("#é", n), n + 1, api.OK},
		{strings.Repeat("=", n+1), n/2 + 2, api.OK},
		{strings.Repeat("a", n), 0, api.ErrWord},
		{"#" + strings.Repeat("a", n), 0, api.ErrWord},
		{strings.Repeat("1", n), 0, api.ErrNumber},
		{"//" + strings.Repeat("\xff", n), 1, api.OK},
	} {
		if l, f := token.Scan(x.s); len(l) != x.tokens || f.Code != x.code {
			t.Errorf("%q, many times: %d tokens, %v", x.s[:3], len(l), f)
		}
	}
}

// R3

func TestScanAnswersAnew(t *testing.T) {
	const s = "a <= #b 7"
	spoilt, _ := token.Scan(s)
	for i := range spoilt {
		spoilt[i] = api.Token{Kind: 99, Text: "spoilt", Int: 99}
	}
	holdScan(t, s)
}
