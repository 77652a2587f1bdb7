package event_test

import (
	"iter"
	"math/rand"
	"strings"
	"testing"

	"sextant/api"
	"sextant/event"
)

func at(off, line, col int) api.Spot { return api.Spot{Off: off, Line: line, Col: col} }

// placed answers an event at a spot.
func placed(ev api.Event, off, line, col int) api.Event {
	ev.At = at(off, line, col)
	return ev
}

// holdParse fails unless Parse answers what the model does.
func holdParse(t *testing.T, s string) {
	t.Helper()
	l, f := event.Parse(s)
	want, fault := modelParse(s)
	if !equal(l, want) || f != fault {
		t.Fatalf("Parse(%q) = %.300v, %+v, want %.300v, %+v", s, l, f, want, fault)
	}
}

// spoilt goes through texts of events in which a few bytes were changed, left out, or put in.
func spoilt(seed int64, count int) iter.Seq[string] {
	pieces := []string{" ", "\n", "\r", "\t", "#", "(", ")", ",", "1", "p", "λ", "\xff", "\xce", "true", "false", "inv", "res", "x'", "-", "[", "]", "{", "}", " true ", " 1q ", "0"}
	return func(yield func(string) bool) {
		r := rand.New(rand.NewSource(seed))
		for range count {
			s := loosely(r, chance(r, 4))
			for range 1 + r.Intn(3) {
				i := r.Intn(len(s) + 1)
				k := min(len(s), i+r.Intn(3))
				s = s[:i] + []string{"", pieces[r.Intn(len(pieces))]}[r.Intn(2)] + s[k:]
			}
			if !yield(s) {
				return
			}
		}
	}
}

// P6.2

func TestParse(t *testing.T) {
	enq := inv("p1", "q", "enq", integer(3))
	yes := res("p1", truth(1))
	for _, x := range []struct {
		s    string
		want []api.Event
	}{
		{"", nil},
		{"\n", nil},
		{" \t\r\n\n# inv p\n  # x", nil},
		{"inv p1 q enq 3\nres p1 true", []api.Event{placed(enq, 0, 1, 1), placed(yes, 15, 2, 1)}},
		{"inv p1 q enq 3\nres p1 true\n", []api.Event{placed(enq, 0, 1, 1), placed(yes, 15, 2, 1)}},
		{"  res   p (1,)   # x", []api.Event{placed(res("p", tuple(integer(1))), 2, 1, 3)}},
		{"# λ\n\n \r\tinv p1\tq\renq   3\t \r\n", []api.Event{placed(enq, 9, 3, 4)}},
		{"res p1 true\r\nres p1 true\r", []api.Event{placed(yes, 0, 1, 1), placed(yes, 13, 2, 1)}},
		{"res p1 true#", []api.Event{placed(yes, 0, 1, 1)}},
		{"res p1 true\r# x\r", []api.Event{placed(yes, 0, 1, 1)}},
		{"res p1 true # x # y", []api.Event{placed(yes, 0, 1, 1)}},
		{"#\xff\nres p1 true", []api.Event{placed(yes, 3, 2, 1)}},
		{"res inv inv", []api.Event{placed(res("inv", symbol("inv")), 0, 1, 1)}},
		{"inv res res res res", []api.Event{placed(inv("res", "res", "res", symbol("res")), 0, 1, 1)}},
		{"inv p true enq 3", []api.Event{placed(inv("p", "true", "enq", integer(3)), 0, 1, 1)}},
		{"inv p false enq 3", []api.Event{placed(inv("p", "false", "enq", integer(3)), 0, 1, 1)}},
		{"inv λ1 ω' É_ {3 ,1,\t3 }", []api.Event{placed(inv("λ1", "ω'", "É_", set(integer(1), integer(3))), 0, 1, 1)}},
		{"res p [ 1 , ( 2 , ) , -3-4i ]", []api.Event{placed(res("p", list(integer(1), tuple(integer(2)), gauss(-3, -4))), 0, 1, 1)}},
		{"res p 1\nres p 1\nres p 1", []api.Event{placed(res("p", integer(1)), 0, 1, 1), placed(res("p", integer(1)), 8, 2, 1), placed(res("p", integer(1)), 16, 3, 1)}},
	} {
		if l, f := event.Parse(x.s); !equal(l, x.want) || f != (api.Fault{}) {
			t.Errorf("Parse(%q) = %v, %+v, want %v", x.s, l, f, x.want)
		}
	}
}

func TestParseTellsTheFirstFault(t *testing.T) {
	for _, x := range []struct {
		s    string
		code api.Errno
		at   api.Spot
	}{
		// The first word.
		{"call p q enq 3", api.ErrEvent, at(0, 1, 1)},
		{"  Inv p q enq 3", api.ErrEvent, at(2, 1, 3)},
		{"invp q enq 3", api.ErrEvent, at(0, 1, 1)},
		{"inv,p q enq 3", api.ErrEvent, at(0, 1, 1)},
		{"3", api.ErrEvent, at(0, 1, 1)},
		{"\xff", api.ErrEvent, at(0, 1, 1)},
		{"\v", api.ErrEvent, at(0, 1, 1)},
		{"\u00a0inv p q enq 3", api.ErrEvent, at(0, 1, 1)},
		{"\ufeffinv p q enq 3", api.ErrEvent, at(0, 1, 1)},
		{"in#v p q enq 3", api.ErrEvent, at(0, 1, 1)},
		// Names.
		{"inv p 1q enq 3", api.ErrWord, at(6, 1, 7)},
		{"inv 1p 1q 1e (", api.ErrWord, at(4, 1, 5)},
		{"inv p 1q", api.ErrWord, at(6, 1, 7)},
		{"inv p q 1e (", api.ErrWord, at(8, 1, 9)},
		{"inv λ q× enq 3", api.ErrWord, at(7, 1, 7)},
		{"inv λ q \xff 3", api.ErrWord, at(9, 1, 9)},
		{"inv true q enq 3", api.ErrWord, at(4, 1, 5)},
		{"inv false q enq 3", api.ErrWord, at(4, 1, 5)},
		{"inv p q true 3", api.ErrWord, at(8, 1, 9)},
		{"inv p q false", api.ErrWord, at(8, 1, 9)},
		{"res true 1", api.ErrWord, at(4, 1, 5)},
		{"res false", api.ErrWord, at(4, 1, 5)},
		{"res 1", api.ErrWord, at(4, 1, 5)},
		{"res p(1,)", api.ErrWord, at(4, 1, 5)},
		{"inv p, q enq 3", api.ErrWord, at(4, 1, 5)},
		{"res " + strings.Repeat("ω", 33) + " 1", api.ErrWord, at(4, 1, 5)},
		{"res p 1\nres true 1", api.ErrWord, at(12, 2, 5)},
		// Names that are missing.
		{"inv", api.ErrEvent, at(3, 1, 4)},
		{"inv p", api.ErrEvent, at(5, 1, 6)},
		{"inv p q", api.ErrEvent, at(7, 1, 8)},
		{"inv p q  \t\r", api.ErrEvent, at(11, 1, 12)},
		{"inv p q\r\nres p 1", api.ErrEvent, at(8, 1, 9)},
		{"inv p q # enq 3", api.ErrEvent, at(8, 1, 9)},
		{"inv p q# enq 3", api.ErrEvent, at(7, 1, 8)},
		{"inv λ ω#enq 3", api.ErrEvent, at(9, 1, 8)},
		{"res", api.ErrEvent, at(3, 1, 4)},
		{"res \n", api.ErrEvent, at(4, 1, 5)},
		{"\n\n λ\n", api.ErrEvent, at(3, 3, 2)},
		{"res#", api.ErrEvent, at(3, 1, 4)},
		// Values.
		{"inv p q enq", api.ErrForm, at(11, 1, 12)},
		{"inv p q enq  \r", api.ErrForm, at(14, 1, 15)},
		{"inv p q enq  \r#", api.ErrForm, at(14, 1, 15)},
		{"inv p q enq#3", api.ErrForm, at(11, 1, 12)},
		{"res p (1)", api.ErrForm, at(8, 1, 9)},
		{"res λ (1)", api.ErrForm, at(9, 1, 9)},
		{"res λ (λ) # x", api.ErrForm, at(10, 1, 9)},
		{"res p (1", api.ErrForm, at(8, 1, 9)},
		{"res p (1, \t \r\nres", api.ErrForm, at(13, 1, 14)},
		{"res p [λ \r # ]", api.ErrForm, at(12, 1, 12)},
		{"res p [λ \n]", api.ErrForm, at(10, 1, 10)},
		{"res p 1 2", api.ErrForm, at(8, 1, 9)},
		{"res p 1 2 \r ", api.ErrForm, at(8, 1, 9)},
		{"res p 1,", api.ErrForm, at(7, 1, 8)},
		{"res p \xff", api.ErrForm, at(6, 1, 7)},
		{"res p [\xff\xff, \xff]", api.ErrForm, at(7, 1, 8)},
		{"res p 007", api.ErrNumber, at(6, 1, 7)},
		{"res p [1, -0]", api.ErrNumber, at(10, 1, 11)},
		{"res p 9223372036854775808 # x", api.ErrNumber, at(6, 1, 7)},
		{"res p 1048577+0i", api.ErrBig, at(6, 1, 7)},
		{"res p [a, " + strings.Repeat("ω", 33) + "]", api.ErrWord, at(10, 1, 11)},
		{"res p " + strings.Repeat("[", 17) + strings.Repeat("]", 17), api.ErrBig, at(22, 1, 23)},
		{"res p 1\n # λ\ninv p q enq (1)", api.ErrForm, at(28, 3, 15)},
		// A byte 13 in the midst of what layer 4 reads.
		{"res p\r1", api.ErrForm, at(5, 1, 6)},
		{"res p \r1", api.ErrForm, at(6, 1, 7)},
		{"res p [1,\r2]\r", api.ErrForm, at(9, 1, 10)},
		{"res p 1\r2", api.ErrForm, at(7, 1, 8)},
		{"inv p q enq \r 3 \r", api.ErrForm, at(12, 1, 13)},
		// The first line at fault.
		{"res p 1\nres p (1)\ncall", api.ErrForm, at(16, 2, 9)},
		{"\ncall\nres p (1)", api.ErrEvent, at(1, 2, 1)},
		{"res p (1)\n\xff", api.ErrForm, at(8, 1, 9)},
	} {
		if l, f := event.Parse(x.s); len(l) != 0 || f != (api.Fault{Code: x.code, At: x.at}) {
			t.Errorf("Parse(%q) = %v, %+v, want %d at %+v", x.s, l, f, x.code, x.at)
		}
		holdParse(t, x.s)
	}
}

func TestParseOfSmallTexts(t *testing.T) {
	pieces := []string{"inv", "res", "p", "true", "1", "(", ",", ")", "#", " ", "\r", "\n", "λ", "\xff", "0"}
	for s := range everyText(4, pieces...) {
		holdParse(t, s)
	}
	for _, ahead := range []string{"res p", "inv p q e", "inv λ", "res p 1\n\r res λ", " inv p q "} {
		for s := range everyText(4, pieces...) {
			holdParse(t, ahead+s)
		}
	}
}

func TestParseOfSpoiltTexts(t *testing.T) {
	for s := range spoilt(62, 40000) {
		holdParse(t, s)
	}
}

// TestParseOfLongTexts: places are told without going through all that stands ahead once more for each event.
func TestParseOfLongTexts(t *testing.T) {
	const many = 200000
	s := strings.Repeat("res λ 1 # x\n", many)
	l, f := event.Parse(s)
	if len(l) != many || f != (api.Fault{}) || l[many-1].At != at(13*(many-1), many, 1) {
		t.Errorf("Parse of many lines: %d, %+v", len(l), f)
	}
	if l, f := event.Parse(s + "res"); len(l) != 0 || f != (api.Fault{Code: api.ErrEvent, At: at(13*many+3, many+1, 4)}) {
		t.Errorf("Parse of many lines and a fault: %d, %+v", len(l), f)
	}
	if l, f := event.Parse("inv p q enq " + strings.Repeat("(", 1<<22)); len(l) != 0 || f != (api.Fault{Code: api.ErrBig, At: at(28, 1, 29)}) {
		t.Errorf("Parse of much nesting: %d, %+v", len(l), f)
	}
	if l, f := event.Parse(strings.Repeat("a ", 1<<20)); len(l) != 0 || f != (api.Fault{Code: api.ErrEvent, At: at(0, 1, 1)}) {
		t.Errorf("Parse of many words: %d, %+v", len(l), f)
	}
}

// P6.3

func TestPrint(t *testing.T) {
	for _, x := range []struct {
		l    []api.Event
		want string
	}{
		{nil, ""},
		{[]api.Event{}, ""},
		{[]api.Event{inv("p1", "q", "enq", integer(3)), res("p1", truth(1))}, "inv p1 q enq 3\nres p1 true\n"},
		{[]api.Event{res("p", tuple(integer(1)))}, "res p (1,)\n"},
		{[]api.Event{inv("λ", "true", "x'", set(integer(-1), gauss(0, -1)))}, "inv λ true x' {-1, 0-1i}\n"},
		{[]api.Event{res("p", list()), res("p", symbol("a"))}, "res p []\nres p a\n"},
	} {
		if s, e := event.Print(x.l); s != x.want || e != api.OK {
			t.Errorf("Print(%v) = %q, %d, want %q", x.l, s, e, x.want)
		}
	}
	for _, l := range samples() {
		if s, e := event.Print(l); s != modelText(l) || e != api.OK {
			t.Fatalf("Print(%.300v) = %.300q, %d", l, s, e)
		}
	}
}
