package text_test

import (
	"iter"
	"math"
	"math/rand"
	"slices"
	"strings"
	"testing"
	"unicode/utf8"

	"sextant/api"
	"sextant/text"
)

type placed struct {
	at api.Spot
	r  rune
}

func collect(s string) []placed {
	var l []placed
	for at, r := range text.Runes(s) {
		l = append(l, placed{at, r})
	}
	return l
}

func collectLines(t *testing.T, s string) []string {
	var l []string
	for n, line := range text.Lines(s) {
		if n != len(l)+1 {
			t.Fatalf("Lines(%q): line %d has the number %d", s, len(l)+1, n)
		}
		l = append(l, line)
	}
	return l
}

// decode tells a text's runes by layer 2's words on UTF-8: its model here, since it does not range over the string.
func decode(s string) (starts []int, runes []rune) {
	for i := 0; i < len(s); {
		r, size := utf8.DecodeRuneInString(s[i:])
		if r == utf8.RuneError && size == 1 {
			r = -1
		}
		starts, runes = append(starts, i), append(runes, r)
		i += size
	}
	return starts, runes
}

// spotOf tells the spot of a byte in the words of P2.1.
func spotOf(s string, off int) api.Spot {
	ahead := s[:off]
	begin := strings.LastIndexByte(ahead, 10) + 1
	col := 1
	starts, _ := decode(s)
	for _, i := range starts {
		if begin <= i && i < off {
			col++
		}
	}
	return api.Spot{Off: off, Line: 1 + strings.Count(ahead, "\n"), Col: col}
}

// everyText goes through all texts of at most so many of these pieces.
func everyText(most int, pieces ...string) iter.Seq[string] {
	return func(yield func(string) bool) {
		var grow func(s string, left int) bool
		grow = func(s string, left int) bool {
			if !yield(s) {
				return false
			}
			for _, p := range pieces {
				if left > 0 && !grow(s+p, left-1) {
					return false
				}
			}
			return true
		}
		grow("", most)
	}
}

// samples goes through small texts of all sorts of runes, whole and broken, and through longer ones by chance (of a fixed seed).
func samples() iter.Seq[string] {
	return func(yield func(string) bool) {
		for s := range everyText(5, "a", "\n", " ", "#", "β", "\uFFFD", "\xce", "\x82") {
			if !yield(s) {
				return
			}
		}
		for s := range everyText(3, "\xf0\x9f\x98\x80", "\xe2", "\x82", "\xac", "\xed\xa0\x80", "\xef", "\xbf", "\xbd", "\xc0\x80", "\xf4\x90\x80\x80", "\"", "\\", "\x00", "\x7f", "\t", "\r", "x") {
			if !yield(s) {
				return
			}
		}
		rnd := rand.New(rand.NewSource(2))
		for range 2000 {
			b := make([]byte, rnd.Intn(40))
			rnd.Read(b)
			if !yield(string(b)) {
				return
			}
		}
	}
}

// P2.1

func TestAtTellsTheSpotOfAByte(t *testing.T) {
	for _, x := range []struct {
		s    string
		off  int
		want api.Spot
	}{
		{"aβ\nc", 4, api.Spot{Off: 4, Line: 2, Col: 1}},
		{"aβ\nc", 2, api.Spot{Off: 2, Line: 1, Col: 3}},
		{"aβ\nc", 0, api.Spot{Off: 0, Line: 1, Col: 1}},
		{"aβ\nc", 1, api.Spot{Off: 1, Line: 1, Col: 2}},
		{"aβ\nc", 3, api.Spot{Off: 3, Line: 1, Col: 3}},
		{"aβ\nc", 5, api.Spot{Off: 5, Line: 2, Col: 2}},
		{"a€b", 2, api.Spot{Off: 2, Line: 1, Col: 3}},
		{"a€b", 3, api.Spot{Off: 3, Line: 1, Col: 3}},
		{"a€b", 4, api.Spot{Off: 4, Line: 1, Col: 3}},
		{"😀", 1, api.Spot{Off: 1, Line: 1, Col: 2}},
		{"😀", 3, api.Spot{Off: 3, Line: 1, Col: 2}},
		{"\xe2\x82", 1, api.Spot{Off: 1, Line: 1, Col: 2}},
		{"\xe2\x82", 2, api.Spot{Off: 2, Line: 1, Col: 3}},
		{"\n\n", 1, api.Spot{Off: 1, Line: 2, Col: 1}},
		{"\n\n", 2, api.Spot{Off: 2, Line: 3, Col: 1}},
		{"a\r\nb", 2, api.Spot{Off: 2, Line: 1, Col: 3}},
	} {
		if got := text.At(x.s, x.off); got != x.want {
			t.Errorf("At(%q, %d) = %+v, want %+v", x.s, x.off, got, x.want)
		}
	}
}

func TestAtTakesWhatIsOutsideForTheEnds(t *testing.T) {
	for _, off := range []int{-1, -99, math.MinInt} {
		if got := text.At("aβ\nc", off); got != (api.Spot{Off: 0, Line: 1, Col: 1}) {
			t.Errorf("At(.., %d) = %+v", off, got)
		}
	}
	for _, off := range []int{6, 99, math.MaxInt} {
		if got := text.At("aβ\nc", off); got != (api.Spot{Off: 5, Line: 2, Col: 2}) {
			t.Errorf("At(.., %d) = %+v", off, got)
		}
	}
	for _, off := range []int{math.MinInt, -1, 0, 1, math.MaxInt} {
		if got := text.At("", off); got != (api.Spot{Off: 0, Line: 1, Col: 1}) {
			t.Errorf("At of the empty text at %d = %+v", off, got)
		}
	}
}

func TestAtOfAllPlacesOfSamples(t *testing.T) {
	for s := range samples() {
		for off := range len(s) + 1 {
			if got, want := text.At(s, off), spotOf(s, off); got != want {
				t.Fatalf("At(%q, %d) = %+v, want %+v", s, off, got, want)
			}
		}
	}
}

// P2.2

func TestPlainTellsTheFirstBrokenRune(t *testing.T) {
	for _, x := range []struct {
		s    string
		want api.Spot
		ok   bool
	}{
		{"a\xffb", api.Spot{Off: 1, Line: 1, Col: 2}, false},
		{"", api.Spot{}, true},
		{"aβ€😀\n\x00", api.Spot{}, true},
		{"\uFFFD", api.Spot{}, true},
		{"β\n\uFFFD\xef\xbf", api.Spot{Off: 6, Line: 2, Col: 2}, false},
		{"\x80", api.Spot{Off: 0, Line: 1, Col: 1}, false},
		{"a\xce", api.Spot{Off: 1, Line: 1, Col: 2}, false},
		{"\xff\xff", api.Spot{Off: 0, Line: 1, Col: 1}, false},
		{"\xed\xa0\x80", api.Spot{Off: 0, Line: 1, Col: 1}, false},     // a surrogate
		{"\xc0\x80", api.Spot{Off: 0, Line: 1, Col: 1}, false},         // not as short as may be
		{"\xf4\x90\x80\x80", api.Spot{Off: 0, Line: 1, Col: 1}, false}, // above the last rune
	} {
		if got, ok := text.Plain(x.s); got != x.want || ok != x.ok {
			t.Errorf("Plain(%q) = %+v, %t, want %+v, %t", x.s, got, ok, x.want, x.ok)
		}
	}
	for s := range samples() {
		starts, runes := decode(s)
		at, ok := text.Plain(s)
		i := slices.Index(runes, -1)
		if ok != utf8.ValidString(s) || ok != (i < 0) {
			t.Fatalf("Plain(%q): %t", s, ok)
		}
		if !ok && at != spotOf(s, starts[i]) || ok && at != (api.Spot{}) {
			t.Fatalf("Plain(%q): %+v", s, at)
		}
	}
}

// P2.3

func TestRunesHaveTheSpotsOfTheirFirstBytes(t *testing.T) {
	for _, x := range []struct {
		s    string
		want []placed
	}{
		{"", nil},
		{"\xceb", []placed{{api.Spot{Off: 0, Line: 1, Col: 1}, -1}, {api.Spot{Off: 1, Line: 1, Col: 2}, 'b'}}},
		{"\uFFFD\xef", []placed{{api.Spot{Off: 0, Line: 1, Col: 1}, 0xFFFD}, {api.Spot{Off: 3, Line: 1, Col: 2}, -1}}},
		{"β\n\n€", []placed{
			{api.Spot{Off: 0, Line: 1, Col: 1}, 'β'}, {api.Spot{Off: 2, Line: 1, Col: 2}, '\n'},
			{api.Spot{Off: 3, Line: 2, Col: 1}, '\n'}, {api.Spot{Off: 4, Line: 3, Col: 1}, '€'},
		}},
		{"\xe2\x82\x41", []placed{
			{api.Spot{Off: 0, Line: 1, Col: 1}, -1}, {api.Spot{Off: 1, Line: 1, Col: 2}, -1}, {api.Spot{Off: 2, Line: 1, Col: 3}, 'A'},
		}},
	} {
		if got := collect(x.s); !slices.Equal(got, x.want) {
			t.Errorf("Runes(%q) = %+v, want %+v", x.s, got, x.want)
		}
	}
	for s := range samples() {
		starts, runes := decode(s)
		var want []placed
		for i, r := range runes {
			want = append(want, placed{spotOf(s, starts[i]), r})
		}
		if got := collect(s); !slices.Equal(got, want) {
			t.Fatalf("Runes(%q) = %+v, want %+v", s, got, want)
		}
	}
}

// P2.4

func TestWidthCountsRunes(t *testing.T) {
	for s, want := range map[string]int{"": 0, "aβ\nc": 4, "€😀": 2, "\xe2\x82": 2, "\uFFFD\xff": 2, "a\r\n": 3} {
		if got := text.Width(s); got != want {
			t.Errorf("Width(%q) = %d, want %d", s, got, want)
		}
	}
	for s := range samples() {
		if got, want := text.Width(s), utf8.RuneCountInString(s); got != want {
			t.Fatalf("Width(%q) = %d, want %d", s, got, want)
		}
	}
}

// P2.5

func TestLinesAreCutAtEachByte10(t *testing.T) {
	for _, x := range []struct {
		s    string
		want []string
	}{
		{"a\n\nb", []string{"a", "", "b"}},
		{"a\n", []string{"a"}},
		{"", nil},
		{"\n", []string{""}},
		{"\n\n", []string{"", ""}},
		{"\n\na", []string{"", "", "a"}},
		{"a\r\nb\r", []string{"a\r", "b\r"}},
		{"β\xff\n\xce", []string{"β\xff", "\xce"}},
		{"a\u2028b\u0085c\vd", []string{"a\u2028b\u0085c\vd"}},
	} {
		if got := collectLines(t, x.s); !slices.Equal(got, x.want) {
			t.Errorf("Lines(%q) = %q, want %q", x.s, got, x.want)
		}
	}
	for s := range samples() {
		want := strings.Split(s, "\n")
		if want[len(want)-1] == "" {
			want = want[:len(want)-1]
		}
		if got := collectLines(t, s); !slices.Equal(got, want) {
			t.Fatalf("Lines(%q) = %q, want %q", s, got, want)
		}
	}
}

// P2.6

func TestWordsStandBetweenBlanks(t *testing.T) {
	for _, x := range []struct {
		line string
		n    int
		want []api.Word
	}{
		{"  inv p1 #x y", 7, []api.Word{{Text: "inv", At: api.Spot{Off: 2, Line: 7, Col: 3}}, {Text: "p1", At: api.Spot{Off: 6, Line: 7, Col: 7}}}},
		{"a#b", 1, []api.Word{{Text: "a#b", At: api.Spot{Off: 0, Line: 1, Col: 1}}}},
		{"", 1, nil},
		{" \t\r ", 1, nil},
		{"#", 1, nil},
		{"#a b", 1, nil},
		{" \t# a b", 1, nil},
		{"a #b #c d", 3, []api.Word{{Text: "a", At: api.Spot{Off: 0, Line: 3, Col: 1}}}},
		{"a# b", 3, []api.Word{{Text: "a#", At: api.Spot{Off: 0, Line: 3, Col: 1}}, {Text: "b", At: api.Spot{Off: 3, Line: 3, Col: 4}}}},
		{"βγ\tδ\r", 2, []api.Word{{Text: "βγ", At: api.Spot{Off: 0, Line: 2, Col: 1}}, {Text: "δ", At: api.Spot{Off: 5, Line: 2, Col: 4}}}},
		{"\xff \xce\xb2\xce x", 2, []api.Word{
			{Text: "\xff", At: api.Spot{Off: 0, Line: 2, Col: 1}}, {Text: "\xce\xb2\xce", At: api.Spot{Off: 2, Line: 2, Col: 3}}, {Text: "x", At: api.Spot{Off: 6, Line: 2, Col: 6}},
		}},
		{"a\nb c\n d", 5, []api.Word{ // a byte 10 is a rune like others: it parts no words and begins no columns
			{Text: "a\nb", At: api.Spot{Off: 0, Line: 5, Col: 1}}, {Text: "c\n", At: api.Spot{Off: 4, Line: 5, Col: 5}}, {Text: "d", At: api.Spot{Off: 7, Line: 5, Col: 8}},
		}},
		{"a\n#b", 5, []api.Word{{Text: "a\n#b", At: api.Spot{Off: 0, Line: 5, Col: 1}}}},
		{"a\u00a0b\vc\fd", 1, []api.Word{{Text: "a\u00a0b\vc\fd", At: api.Spot{Off: 0, Line: 1, Col: 1}}}},
		{"a", 0, []api.Word{{Text: "a", At: api.Spot{Off: 0, Line: 0, Col: 1}}}},
		{"a", math.MinInt, []api.Word{{Text: "a", At: api.Spot{Off: 0, Line: math.MinInt, Col: 1}}}},
		{"a", math.MaxInt, []api.Word{{Text: "a", At: api.Spot{Off: 0, Line: math.MaxInt, Col: 1}}}},
	} {
		if got := text.Words(x.line, x.n); !slices.Equal(got, x.want) {
			t.Errorf("Words(%q, %d) = %+v, want %+v", x.line, x.n, got, x.want)
		}
	}
}

// wordsOf tells the words of a line in the words of P2.6.
func wordsOf(line string, n int) []api.Word {
	var l []api.Word
	off := 0
	for _, f := range strings.FieldsFunc(line, func(r rune) bool { return r == 32 || r == 9 || r == 13 }) {
		if strings.HasPrefix(f, "#") {
			break
		}
		off += strings.Index(line[off:], f)
		l = append(l, api.Word{Text: f, At: api.Spot{Off: off, Line: n, Col: 1 + utf8.RuneCountInString(line[:off])}})
		off += len(f)
	}
	return l
}

func TestWordsOfSamples(t *testing.T) {
	for s := range samples() {
		if got, want := text.Words(s, 4), wordsOf(s, 4); !slices.Equal(got, want) {
			t.Fatalf("Words(%q) = %+v, want %+v", s, got, want)
		}
	}
	for s := range everyText(6, "a", "β", " ", "\t", "\r", "#") {
		if got, want := text.Words(s, 4), wordsOf(s, 4); !slices.Equal(got, want) {
			t.Fatalf("Words(%q) = %+v, want %+v", s, got, want)
		}
	}
}

// P2.11

func TestRunesFollowOneAnother(t *testing.T) {
	for s := range samples() {
		l := collect(s)
		if len(l) != text.Width(s) {
			t.Fatalf("Runes(%q) are %d, Width %d", s, len(l), text.Width(s))
		}
		off, col := 0, 1
		for _, p := range l {
			if p.at.Off != off || p.at.Col != col || p.at != text.At(s, off) {
				t.Fatalf("Runes(%q): %+v, want Off %d and Col %d", s, p, off, col)
			}
			off, col = off+1, col+1
			if p.r >= 0 {
				off += utf8.RuneLen(p.r) - 1
			}
			if p.r == 10 {
				col = 1
			}
		}
		if off != len(s) {
			t.Fatalf("Runes(%q) end at %d", s, off)
		}
	}
}

func TestLinesPutTogetherAreTheText(t *testing.T) {
	for s := range samples() {
		again := ""
		for _, l := range text.Lines(s) {
			again += l + "\n"
		}
		if want := s; again != want && again != want+"\n" {
			t.Fatalf("Lines(%q) put together are %q", s, again)
		}
		if whole := s == "" || strings.HasSuffix(s, "\n"); (again == s) != whole {
			t.Fatalf("Lines(%q) put together are %q", s, again)
		}
	}
}

func TestWordsHoldAllRunesButBlanksAndTheRemark(t *testing.T) {
	for s := range samples() {
		held, end := "", 0
		for _, w := range text.Words(s, 1) {
			if w.Text == "" || w.At.Off < end || s[w.At.Off:w.At.Off+len(w.Text)] != w.Text {
				t.Fatalf("Words(%q): %+v behind %d", s, w, end)
			}
			if strings.Trim(s[end:w.At.Off], " \t\r") != "" || end > 0 && end == w.At.Off {
				t.Fatalf("Words(%q): %q stands ahead of %+v", s, s[end:w.At.Off], w)
			}
			held += w.Text
			end = w.At.Off + len(w.Text)
		}
		if rest := strings.TrimLeft(s[end:], " \t\r"); rest != "" && rest[0] != '#' {
			t.Fatalf("Words(%q) hold %q, and not %q", s, held, rest)
		}
	}
}

// R3, R4

func TestIteratorsMayBeLeftAndGoneThroughAgain(t *testing.T) {
	runes, lines := text.Runes("aβ\nc"), text.Lines("a\nb\nc\n")
	for most := range 5 {
		n := 0
		for range runes {
			if n++; n > most {
				break
			}
		}
		n = 0
		for range lines {
			if n++; n > most {
				break
			}
		}
	}
	var got []rune
	for at, r := range runes {
		if at != text.At("aβ\nc", at.Off) {
			t.Errorf("%+v when gone through again", at)
		}
		got = append(got, r)
	}
	if !slices.Equal(got, []rune("aβ\nc")) {
		t.Errorf("runes gone through again: %q", got)
	}
	for n, l := range lines {
		if want := string(rune('a' + n - 1)); l != want {
			t.Errorf("line %d gone through again: %q", n, l)
		}
	}
}

func TestIteratorsKnowNothingOfOneAnother(t *testing.T) {
	one := text.Runes("ab\ncd")
	next, stop := iter.Pull2(one)
	defer stop()
	also, end := iter.Pull2(one)
	defer end()
	next()
	next()
	next()
	if at, r, ok := next(); r != 'c' || at != (api.Spot{Off: 3, Line: 2, Col: 1}) || !ok {
		t.Error("the first:", at, r, ok)
	}
	if at, r, ok := also(); r != 'a' || at != (api.Spot{Off: 0, Line: 1, Col: 1}) || !ok {
		t.Error("the second:", at, r, ok)
	}
	left, stopLeft := iter.Pull2(text.Lines("a\nb"))
	defer stopLeft()
	right, stopRight := iter.Pull2(text.Lines("x\ny"))
	defer stopRight()
	left()
	if n, l, ok := right(); n != 1 || l != "x" || !ok {
		t.Error("right:", n, l, ok)
	}
	if n, l, ok := left(); n != 2 || l != "b" || !ok {
		t.Error("left:", n, l, ok)
	}
}

func TestWordsAreTheCallersOwn(t *testing.T) {
	l := text.Words("a b", 1)
	clear(l)
	_ = append(l, api.Word{Text: "x"})
	if got := text.Words("a b", 1); !slices.Equal(got, wordsOf("a b", 1)) {
		t.Error("Words after a change of its first answer:", got)
	}
}

// R1: all of it ends soon on long texts, too.

func TestLongTexts(t *testing.T) {
	const size = 1 << 20
	for _, s := range []string{strings.Repeat("a", size), strings.Repeat("\n", size), strings.Repeat("a ", size), strings.Repeat("\xff", size), strings.Repeat("\\", size), strings.Repeat("9", size)} {
		if at := text.At(s, len(s)); at != collect(s + ".")[text.Width(s)].at {
			t.Error("At:", at)
		}
		if n := len(collectLines(t, s)); n != max(1, strings.Count(s, "\n")) {
			t.Error("Lines:", n)
		}
		if n := len(text.Words(s, 1)); n != max(1, strings.Count(s, " ")) {
			t.Error("Words:", n)
		}
		if u, e := text.Unquote(text.Quote(s)); u != s || e != api.OK {
			t.Error("Unquote:", e)
		}
		if _, e := text.Unquote(s); e != api.ErrQuote {
			t.Error("Unquote:", e)
		}
		if _, e := text.Number(s); e != api.ErrNumber {
			t.Error("Number:", e)
		}
		if e := text.Name(s); e != api.ErrWord {
			t.Error("Name:", e)
		}
		if p, e := text.Pad(s, api.MaxWide); p != s || e != api.OK {
			t.Error("Pad:", e)
		}
	}
}
