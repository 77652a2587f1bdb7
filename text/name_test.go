package text_test

import (
	"math"
	"math/big"
	"math/rand"
	"strconv"
	"strings"
	"testing"

	"sextant/api"
	"sextant/text"
)

// P2.7

func TestLetterOfEveryRune(t *testing.T) {
	letter := func(r rune) bool {
		switch {
		case r == 0xD7, r == 0xF7, r == 0x3A2:
			return false
		}
		return 'a' <= r && r <= 'z' || 'A' <= r && r <= 'Z' || r == '_' || 0xC0 <= r && r <= 0x24F || 0x391 <= r && r <= 0x3C9
	}
	for r := rune(-300); r < 0x110100; r++ {
		if got := text.Letter(r); got != letter(r) {
			t.Errorf("Letter(%#x) = %t", r, got)
		}
	}
	for _, r := range []rune{math.MinInt32, math.MaxInt32, -1} {
		if text.Letter(r) {
			t.Errorf("Letter(%d)", r)
		}
	}
}

func TestNames(t *testing.T) {
	for _, s := range []string{"x'", "λ1", "a", "_", "Z", "À", "ɏ", "Α", "ω", "_'", "a0'9", "p''", "é1", strings.Repeat("a", 32), "a" + strings.Repeat("'", 31), strings.Repeat("λ", 32)} {
		if e := text.Name(s); e != api.OK {
			t.Errorf("Name(%q) = %d", s, e)
		}
	}
	for _, s := range []string{
		"1a", "", "×", "÷", "'a", "0", "a b", " a", "a ", "a-b", "a.b", "a\n", "\x00", "a×", "a/", "a:", "a@", "a[", "a`", "a{", "ɐ", "ΐ", "ϊ", "\u03a2", "a\u03a2",
		"\xff", "a\xff", "\xce", "a\uFFFD", "٣", "a٣", "я", "a\"", "#a",
		strings.Repeat("a", 33), strings.Repeat("λ", 33), strings.Repeat("a", 32) + "'",
	} {
		if e := text.Name(s); e != api.ErrWord {
			t.Errorf("Name(%q) = %d", s, e)
		}
	}
	if api.MaxName != 32 || api.ErrWord != 21 {
		t.Error("MaxName or ErrWord is another")
	}
}

func TestNamesOfSmallTexts(t *testing.T) {
	good := map[string]bool{}
	for s := range everyText(3, "a", "Ω", "0", "9", "'") {
		good[s] = s != "" && (s[0] == 'a' || strings.HasPrefix(s, "Ω"))
	}
	for s := range everyText(3, "a", "Ω", "0", "9", "'", "-", "\xce", "×") {
		want := api.ErrWord
		if good[s] {
			want = api.OK
		}
		if e := text.Name(s); e != want {
			t.Errorf("Name(%q) = %d, want %d", s, e, want)
		}
	}
}

// P2.8

func numbers() []int64 {
	l := []int64{0, 1, -1, 9, 10, -10, 99, 100, math.MaxInt64, math.MinInt64, math.MaxInt64 - 1, math.MinInt64 + 1}
	for i := range 63 {
		p := int64(1) << i
		l = append(l, p, p-1, -p, 1-p)
	}
	for p := int64(1); p <= math.MaxInt64/10; p *= 10 {
		l = append(l, p, p-1, p+1, -p, 10*p)
	}
	rnd := rand.New(rand.NewSource(8))
	for range 1000 {
		l = append(l, int64(rnd.Uint64())>>rnd.Intn(64))
	}
	return l
}

func TestDecimalAndBack(t *testing.T) {
	for n, want := range map[int64]string{0: "0", 7: "7", -7: "-7", 10: "10", -100: "-100", math.MaxInt64: "9223372036854775807", math.MinInt64: "-9223372036854775808"} {
		if got := text.Decimal(n); got != want {
			t.Errorf("Decimal(%s) = %s", want, got)
		}
	}
	for _, n := range numbers() {
		s := text.Decimal(n)
		if want := big.NewInt(n).String(); s != want {
			t.Errorf("Decimal of %s = %s", want, s)
		}
		if m, e := text.Number(s); m != n || e != api.OK {
			t.Errorf("Number(%q) = %d, %d", s, m, e)
		}
	}
}

func TestNumberRefusesWhatDecimalNeverWrites(t *testing.T) {
	bad := []string{
		"-0", "007", "9223372036854775808", "", "-", "--1", "+1", " 1", "1 ", "00", "-01", "01", "1x", "x", "1_0", "0x1", "1.0", "1e3", "1-", "-1-", "1-1", "\n", "1\n", "1\xff", "\xff", "١", "1\x00", "\x00",
		"-9223372036854775809", "18446744073709551615", "18446744073709551616", "18446744073709551617", "-18446744073709551616", "-18446744073709551617", "27670116110564327424", "99999999999999999999", "-99999999999999999999",
		"340282366920938463463374607431768211457", "0000000000000000000000000000001", "1:", "/", ":0",
	}
	for _, s := range bad {
		if n, e := text.Number(s); n != 0 || e != api.ErrNumber {
			t.Errorf("Number(%q) = %d, %d", s, n, e)
		}
	}
	if api.ErrNumber != 22 {
		t.Error("ErrNumber is another")
	}
}

func TestNumberOfSmallTexts(t *testing.T) {
	for s := range everyText(5, "-", "+", "0", "1", "9", " ", ":", "/") {
		want, err := strconv.ParseInt(s, 10, 64)
		good := err == nil && strconv.FormatInt(want, 10) == s
		n, e := text.Number(s)
		if good && (n != want || e != api.OK) || !good && (n != 0 || e != api.ErrNumber) {
			t.Errorf("Number(%q) = %d, %d", s, n, e)
		}
	}
}
