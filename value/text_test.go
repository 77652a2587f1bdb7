package value_test

import (
	"math"
	"math/rand"
	"strings"
	"testing"

	"sextant/api"
	"sextant/value"
)

// P4.7

func TestPrint(t *testing.T) {
	for _, x := range []struct {
		v    api.Value
		want string
	}{
		{integer(0), "0"},
		{integer(-12), "-12"},
		{integer(math.MinInt64), "-9223372036854775808"},
		{truth(0), "false"},
		{truth(1), "true"},
		{symbol("λ'"), "λ'"},
		{gauss(3, -4), "3-4i"},
		{gauss(0, 1), "0+1i"},
		{gauss(0, 0), "0+0i"},
		{gauss(-1, 0), "-1+0i"},
		{gauss(-(1 << 20), -(1 << 20)), "-1048576-1048576i"},
		{tuple(), "()"},
		{tuple(integer(1)), "(1,)"},
		{tuple(tuple(integer(1))), "((1,),)"},
		{tuple(integer(1), truth(0)), "(1, false)"},
		{list(), "[]"},
		{list(integer(1)), "[1]"},
		{list(integer(1), symbol("a"), gauss(0, 1)), "[1, a, 0+1i]"},
		{set(), "{}"},
		{set(integer(1)), "{1}"},
		{set(integer(1), integer(3)), "{1, 3}"},
		{list(tuple(integer(1), integer(2)), set(list(), list(tuple()))), "[(1, 2), {[], [()]}]"},
	} {
		if s, e := value.Print(x.v); s != x.want || e != api.OK {
			t.Errorf("Print(%v) = %q, %d, want %q", x.v, s, e, x.want)
		}
	}
}

// P4.8

func TestParse(t *testing.T) {
	for s, want := range map[string]api.Value{
		"{3,1 , 3}":              set(integer(1), integer(3)),
		"{ }":                    set(),
		"(1,)":                   tuple(integer(1)),
		"( 1 ,\t)":               tuple(integer(1)),
		"()":                     tuple(),
		" \t( ) \t":              tuple(),
		"(1,2)":                  tuple(integer(1), integer(2)),
		"[1,true,false]":         list(integer(1), truth(1), truth(0)),
		"true":                   truth(1),
		"true'":                  symbol("true'"),
		"λ'":                     symbol("λ'"),
		"i":                      symbol("i"),
		"[-1,-1-1i]":             list(integer(-1), gauss(-1, -1)),
		"0+0i":                   gauss(0, 0),
		"-1048576+1048576i":      gauss(-(1 << 20), 1<<20),
		"-9223372036854775808":   integer(math.MinInt64),
		"9223372036854775807":    integer(math.MaxInt64),
		"{[2],[1],[2],{},{1,1}}": set(list(integer(1)), list(integer(2)), set(), set(integer(1))),
		"((1,),(2,3,4))":         tuple(tuple(integer(1)), tuple(integer(2), integer(3), integer(4))),
	} {
		if v, f := value.Parse(s); !same(v, want) || f != (api.Fault{}) {
			t.Errorf("Parse(%q) = %v, %+v", s, v, f)
		}
		holdParse(t, s)
	}
}

func TestParseFaults(t *testing.T) {
	deep := strings.Repeat("[", 16)
	long := strings.Repeat("λ", 33)
	for _, x := range []struct {
		s        string
		code     api.Errno
		off, col int
	}{
		// ErrForm: at what may not stand there, or at the end
		{"", api.ErrForm, 0, 1},
		{" \t ", api.ErrForm, 3, 4},
		{"(1)", api.ErrForm, 2, 3},
		{"(1", api.ErrForm, 2, 3},
		{"(1,", api.ErrForm, 3, 4},
		{"(1,2,)", api.ErrForm, 5, 6},
		{"(,)", api.ErrForm, 1, 2},
		{"(1,,)", api.ErrForm, 3, 4},
		{"[1,]", api.ErrForm, 3, 4},
		{"[1 2]", api.ErrForm, 3, 4},
		{"[1)", api.ErrForm, 2, 3},
		{"[ ", api.ErrForm, 2, 3},
		{"{,}", api.ErrForm, 1, 2},
		{"{1,}", api.ErrForm, 3, 4},
		{"{", api.ErrForm, 1, 2},
		{")", api.ErrForm, 0, 1},
		{",", api.ErrForm, 0, 1},
		{"1 2", api.ErrForm, 2, 3},
		{"1,", api.ErrForm, 1, 2},
		{"() ()", api.ErrForm, 3, 4},
		{"[λ λ]", api.ErrForm, 4, 4},
		{"λ λ", api.ErrForm, 3, 3},
		{"1+2", api.ErrForm, 1, 2},
		{"1-2", api.ErrForm, 1, 2},
		{"1+i", api.ErrForm, 1, 2},
		{"1+-2i", api.ErrForm, 1, 2},
		{"1 +2i", api.ErrForm, 2, 3},
		{"1+ 2i", api.ErrForm, 1, 2},
		{"1+2 i", api.ErrForm, 1, 2},
		{"1+2i3", api.ErrForm, 4, 5},
		{"1+2in", api.ErrForm, 4, 5},
		{"1+2i+3i", api.ErrForm, 4, 5},
		{"1i", api.ErrForm, 1, 2},
		{"1a", api.ErrForm, 1, 2},
		{"-", api.ErrForm, 0, 1},
		{"- 1", api.ErrForm, 0, 1},
		{"--1", api.ErrForm, 0, 1},
		{"-a", api.ErrForm, 0, 1},
		{"+1", api.ErrForm, 0, 1},
		{"'a", api.ErrForm, 0, 1},
		{"#a", api.ErrForm, 0, 1},
		{"\n1", api.ErrForm, 0, 1},
		{"1\n", api.ErrForm, 1, 2},
		{"1\r", api.ErrForm, 1, 2},
		{"1\u00a0", api.ErrForm, 1, 2},
		{"٣", api.ErrForm, 0, 1},
		{"１", api.ErrForm, 0, 1},
		{"×", api.ErrForm, 0, 1},
		{"a×", api.ErrForm, 1, 2},
		{"\xff", api.ErrForm, 0, 1},
		{"a\xff", api.ErrForm, 1, 2},
		{"\xce", api.ErrForm, 0, 1},
		{"1\x00", api.ErrForm, 1, 2},
		{"1 007", api.ErrForm, 2, 3},
		{"1 " + long, api.ErrForm, 2, 3},
		{deep + ",", api.ErrForm, 16, 17},
		{deep + "-", api.ErrForm, 16, 17},
		{deep, api.ErrForm, 16, 17},
		// ErrNumber: at the row's beginning
		{"007", api.ErrNumber, 0, 1},
		{"00", api.ErrNumber, 0, 1},
		{"-0", api.ErrNumber, 0, 1},
		{"-00", api.ErrNumber, 0, 1},
		{"-01", api.ErrNumber, 0, 1},
		{"01x", api.ErrNumber, 0, 1},
		{"[λ, 01", api.ErrNumber, 5, 5},
		{"9223372036854775808", api.ErrNumber, 0, 1},
		{"-9223372036854775809", api.ErrNumber, 0, 1},
		{"18446744073709551616", api.ErrNumber, 0, 1},
		{strings.Repeat("9", 5000), api.ErrNumber, 0, 1},
		{"0-0i", api.ErrNumber, 0, 1},
		{"-0+0i", api.ErrNumber, 0, 1},
		{"00+1i", api.ErrNumber, 0, 1},
		{"0+00i", api.ErrNumber, 0, 1},
		{"0+01i", api.ErrNumber, 0, 1},
		{"0-01i", api.ErrNumber, 0, 1},
		{"9223372036854775808+0i", api.ErrNumber, 0, 1},
		{"0+9223372036854775808i", api.ErrNumber, 0, 1},
		{"0-9223372036854775809i", api.ErrNumber, 0, 1},
		{"0-9223372036854775808i", api.ErrNumber, 0, 1}, // the digits behind the sign pass 64 bits by themselves
		{"1048577+01i", api.ErrNumber, 0, 1},
		{"1048577-0i", api.ErrNumber, 0, 1},
		// ErrBig of a Gaussian integer
		{"1048577+0i", api.ErrBig, 0, 1},
		{"-1048577+0i", api.ErrBig, 0, 1},
		{"0+1048577i", api.ErrBig, 0, 1},
		{"[1, 0-1048577i", api.ErrBig, 4, 5},
		{"-9223372036854775808+0i", api.ErrBig, 0, 1},
		{"0-9223372036854775807i", api.ErrBig, 0, 1},
		// ErrWord
		{long, api.ErrWord, 0, 1},
		{"[λ," + long, api.ErrWord, 4, 4},
		{"a" + strings.Repeat("'", 32), api.ErrWord, 0, 1},
		{"true" + strings.Repeat("0", 29), api.ErrWord, 0, 1},
		// ErrBig by depth, ahead of what is wrong with the token in other ways
		{deep + "[" + strings.Repeat("]", 17), api.ErrBig, 16, 17},
		{deep + "1", api.ErrBig, 16, 17},
		{deep + "(", api.ErrBig, 16, 17},
		{deep + "{", api.ErrBig, 16, 17},
		{deep + "true", api.ErrBig, 16, 17},
		{deep + " 007", api.ErrBig, 17, 18},
		{deep + "0-0i", api.ErrBig, 16, 17},
		{deep + long, api.ErrBig, 16, 17},
		{strings.Repeat("[", 60000), api.ErrBig, 16, 17},
		// the first one that is met
		{"[007, \xff", api.ErrNumber, 1, 2},
		{"[1 \xff 007", api.ErrForm, 3, 4},
	} {
		want := api.Fault{Code: x.code, At: api.Spot{Off: x.off, Line: 1, Col: x.col}}
		if v, f := value.Parse(x.s); !zero(v) || f != want {
			t.Errorf("Parse(%.40q) = kind %d, %+v, want %+v", x.s, v.Kind, f, want)
		}
		holdParse(t, x.s)
	}
}

func TestParseAtTheLimits(t *testing.T) {
	ones := func(n int) string { return strings.TrimSuffix(strings.Repeat("1,", n), ",") }
	for why, x := range map[string]struct {
		s    string
		code api.Errno
		off  int
	}{
		"16 levels":                      {strings.Repeat("[", 16) + strings.Repeat("]", 16), api.OK, 0},
		"16 levels, a number at the end": {strings.Repeat("[", 15) + "1" + strings.Repeat("]", 15), api.OK, 0},
		"17 levels on one side":          {"[[]," + strings.Repeat("[", 16), api.ErrBig, 4 + 15},
		"4096 parts":                     {"[" + ones(4095) + "]", api.OK, 0},
		"4097 parts":                     {"[" + ones(4096) + "]", api.ErrBig, 1 + 2*4095},
		"the 4097th a list":              {"[" + ones(4095) + ",[]]", api.ErrBig, 1 + 2*4095},
		"the 4097th at fault":            {"(" + ones(4095) + ",007)", api.ErrBig, 1 + 2*4095},
		"the 4097th no value":            {"(" + ones(4095) + ",]", api.ErrForm, 1 + 2*4095},
		"4096 like items of a set":       {"{" + ones(4096) + "}", api.ErrBig, 1 + 2*4095},
		"4095 like items of a set":       {"{" + ones(4095) + "}", api.OK, 0},
		"4097 parts in two lists":        {"[[" + ones(2047) + "],[" + ones(2047) + "]]", api.ErrBig, 2 + 2*2047 + 2 + 2*2046},
		"4096 parts in two lists":        {"[[" + ones(2047) + "],[" + ones(2046) + "]]", api.OK, 0},
		"a name of 32 runes":             {strings.Repeat("λ", 32), api.OK, 0},
	} {
		v, f := value.Parse(x.s)
		if f.Code != x.code || f.At.Off != x.off || x.code == api.OK && value.Check(v) != api.OK {
			t.Errorf("%s: %+v", why, f)
		}
		holdParse(t, x.s)
	}
	if v := parsed(t, "{"+ones(4095)+"}"); !same(v, set(integer(1))) {
		t.Error("a set of like items:", v)
	}
}

func TestParseOfSmallTexts(t *testing.T) {
	for s := range everyText(5, "(", ")", "[", "]", "{", "}", ",", "1", "b", "\t") {
		holdParse(t, s)
	}
	for s := range everyText(6, "0", "1", "-", "+", "i", " ", ",") {
		holdParse(t, s)
		holdParse(t, "["+s+"]")
	}
	for s := range everyText(5, "a", "λ", "'", "0", " ", "×", "\xce", "\n", "true") {
		holdParse(t, s)
	}
}

func TestParseOfSpoiltTexts(t *testing.T) {
	r := rand.New(rand.NewSource(48))
	l := samples()
	pieces := []string{"(", ")", "[", "]", "{", "}", ",", "0", "1", "-", "+", "i", " ", "\t", "λ", "'", "\xff", "\n", "true", "007", "1048577", "00", strings.Repeat("x", 33)}
	for range 30000 {
		s, _ := value.Print(l[r.Intn(len(l))])
		if len(s) > 500 {
			continue
		}
		for range r.Intn(3) {
			at := r.Intn(len(s) + 1)
			end := min(len(s), at+r.Intn(3))
			s = s[:at] + pieces[r.Intn(len(pieces))] + s[end:]
		}
		holdParse(t, s)
		if v, f := value.Parse(s); f.Code == api.OK && value.Check(v) != api.OK {
			t.Fatalf("Parse(%q) is not right: %v", s, v)
		}
	}
}

func TestLettersOfNames(t *testing.T) {
	for r := rune(0); r < 0x500; r++ {
		holdParse(t, string(r))
		holdParse(t, "a"+string(r)+"1")
	}
}
