package event_test

import (
	"math/rand"
	"slices"
	"strings"
	"testing"

	"sextant/api"
	"sextant/event"
)

func TestErrorNumbers(t *testing.T) {
	if api.ErrEvent != 60 || api.ErrEvents != 61 || api.ErrWord != 21 || api.EvInv != 1 || api.EvRes != 2 {
		t.Error("an error or a kind is another")
	}
}

// P6.1

func TestRightEventsAreTaken(t *testing.T) {
	for _, ev := range single() {
		for _, at := range []api.Spot{{}, {Off: 7, Line: 2, Col: 1}, {Off: -1, Line: -5, Col: 1 << 40}} {
			ev.At = at
			l := []api.Event{ev}
			if s, e := event.Print(l); e != api.OK || s != modelText(l) {
				t.Fatalf("Print(%.300v) = %.300q, %d", l, s, e)
			}
			if b, e := event.Encode(l); e != api.OK || string(b) != string(modelBytes(l)) {
				t.Fatalf("Encode(%.300v) = %.300x, %d", l, b, e)
			}
		}
	}
}

func TestWrongEventsAreRefused(t *testing.T) {
	some := []api.Event{inv("p", "q", "enq", integer(1)), res("p", truth(1))}
	for why, ev := range wrong() {
		for place := range 3 {
			l := slices.Insert(slices.Clone(some), place, ev)
			if s, e := event.Print(l); s != "" || e != api.ErrEvent {
				t.Errorf("Print, %s, at %d: %.300q, %d", why, place, s, e)
			}
			if b, e := event.Encode(l); len(b) != 0 || e != api.ErrEvent {
				t.Errorf("Encode, %s, at %d: %.300x, %d", why, place, b, e)
			}
		}
	}
}

// P6.6

func TestSame(t *testing.T) {
	for _, l := range samples() {
		if !event.Same(l, deepCopy(l)) {
			t.Fatalf("Same(%.300v) with itself: false", l)
		}
	}
	if !event.Same(nil, []api.Event{}) || !event.Same([]api.Event{}, nil) || !event.Same(nil, nil) {
		t.Error("no events are not the same as none")
	}
}

func TestSameLooksAtEachField(t *testing.T) {
	one := inv("p", "q", "enq", list(integer(1), integer(2)))
	for why, change := range map[string]func(*api.Event){
		"kind":             func(ev *api.Event) { ev.Kind = api.EvRes },
		"process":          func(ev *api.Event) { ev.Proc = "p1" },
		"object":           func(ev *api.Event) { ev.Object = "Q" },
		"operation":        func(ev *api.Event) { ev.Op = "" },
		"value":            func(ev *api.Event) { ev.Value = list(integer(1), integer(3)) },
		"kind of value":    func(ev *api.Event) { ev.Value = tuple(integer(1), integer(2)) },
		"items of a value": func(ev *api.Event) { ev.Value = list(integer(1)) },
	} {
		other := one
		change(&other)
		for n := range 3 {
			for place := range n + 1 {
				same := slices.Repeat([]api.Event{one}, n)
				a, b := slices.Insert(slices.Clone(same), place, one), slices.Insert(slices.Clone(same), place, other)
				if event.Same(a, b) || event.Same(b, a) {
					t.Errorf("Same, another %s at %d of %d: true", why, place, n+1)
				}
			}
		}
	}
	for n := range 4 {
		for k := range 4 {
			a, b := slices.Repeat([]api.Event{one}, n), slices.Repeat([]api.Event{one}, k)
			if event.Same(a, b) != (n == k) {
				t.Errorf("Same of %d and %d events: %t", n, k, n != k)
			}
		}
	}
}

func TestSameLooksAtNoSpots(t *testing.T) {
	a, b := []api.Event{res("p", truth(1))}, []api.Event{res("p", truth(1))}
	b[0].At = api.Spot{Off: 3, Line: 2, Col: 9}
	if !event.Same(a, b) {
		t.Error("Same of one event at two places: false")
	}
}

// TestSameOfWrongOnes: a value that is not right is like none, not like itself either; all else of an event may be anything.
func TestSameOfWrongOnes(t *testing.T) {
	for why, v := range wrongValues() {
		a := []api.Event{res("p", truth(1)), res("p", v)}
		b := []api.Event{res("p", truth(1)), res("p", truth(1))}
		if event.Same(a, a) || event.Same(a, b) || event.Same(b, a) {
			t.Errorf("Same, %s: true", why)
		}
	}
	for why, ev := range wrong() {
		if strings.HasPrefix(why, "the argument") || strings.HasPrefix(why, "the answer") || why == "no event" {
			continue
		}
		if !event.Same([]api.Event{ev}, []api.Event{ev}) {
			t.Errorf("Same, %s: false", why)
		}
	}
}

func TestSameOfChance(t *testing.T) {
	r := rand.New(rand.NewSource(66))
	for range 20000 {
		a, b := chance(r, 2), chance(r, 2)
		if got := event.Same(a, b); got != equal(a, b) {
			t.Fatalf("Same(%v, %v) = %t", a, b, got)
		}
	}
}

// P6.7

func TestThereAndBack(t *testing.T) {
	for _, l := range samples() {
		s, e := event.Print(l)
		m, f := event.Parse(s)
		if e != api.OK || f != (api.Fault{}) || !event.Same(m, l) || !equal(unplaced(m), unplaced(l)) {
			t.Fatalf("Parse(Print(%.300v)) = %.300v, %+v", l, m, f)
		}
		b, e := event.Encode(l)
		k, g := event.Decode(b)
		if e != api.OK || g != api.OK || !event.Same(k, l) || !equal(k, unplaced(l)) {
			t.Fatalf("Decode(Encode(%.300v)) = %.300v, %d", l, k, g)
		}
		again, e := event.Print(m)
		if e != api.OK || again != s {
			t.Fatalf("Print(Parse(%.300q)) = %.300q, %d", s, again, e)
		}
	}
}

// loosely writes events with more blanks, empty lines and remarks.
func loosely(r *rand.Rand, l []api.Event) string {
	pick := func(some ...string) string { return some[r.Intn(len(some))] }
	gap := func(least string) string { return least + pick("", " ", "\t", "  \t ") }
	s := ""
	for line := range strings.Lines(modelText(l)) {
		s += pick("", "\n", "\r\n", "# a remark\n", " \t#inv p q\n", "##\xff\n", "\n\n")
		words := strings.SplitN(strings.TrimSuffix(line, "\n"), " ", 5)
		if words[0] == "res" {
			words = strings.SplitN(strings.TrimSuffix(line, "\n"), " ", 3)
		}
		last := len(words) - 1
		s += pick("", " ", "\t", "\r", " \r\t")
		for i, w := range words[:last] {
			s += w + gap(pick(" ", "\t"))
			if i < last-1 {
				s += pick("", "\r", "\r \r")
			}
		}
		s += words[last] + pick("", " ", "\t", "\r", " \r\t\r") + pick("", "#", "# λ 1", "#\xff#", "#\r") + "\n"
	}
	return s
}

func TestBlanksEmptyLinesAndRemarksChangeNothingButSpots(t *testing.T) {
	r := rand.New(rand.NewSource(67))
	for _, l := range samples() {
		for range 3 {
			s := loosely(r, l)
			m, f := event.Parse(s)
			if f != (api.Fault{}) || !event.Same(m, l) || !equal(unplaced(m), unplaced(l)) {
				t.Fatalf("Parse(%.300q) = %.300v, %+v", s, m, f)
			}
			for _, ev := range m {
				if word := s[ev.At.Off:]; ev.At != modelSpot(s, ev.At.Off) || !strings.HasPrefix(word, "inv") && !strings.HasPrefix(word, "res") {
					t.Fatalf("Parse(%.300q): an event at %+v", s, ev.At)
				}
			}
		}
	}
}

// TestATextIsRightAheadOfItsFault also holds that what Parse answers without a fault is right: Print takes it.
func TestATextIsRightAheadOfItsFault(t *testing.T) {
	faults := 0
	for s := range spoilt(68, 20000) {
		l, f := event.Parse(s)
		if f.Code != api.OK {
			faults++
			line := strings.LastIndexByte(s[:f.At.Off], '\n') + 1
			if l, f = event.Parse(s[:line]); f != (api.Fault{}) {
				t.Fatalf("Parse(%q), the beginning of %q: %+v", s[:line], s, f)
			}
		}
		if _, e := event.Print(l); e != api.OK {
			t.Fatalf("Print(Parse(%q)): %d", s, e)
		}
		if _, e := event.Encode(l); e != api.OK {
			t.Fatalf("Encode(Parse(%q)): %d", s, e)
		}
	}
	if faults < 5000 || faults > 19000 {
		t.Errorf("%d texts of 20000 have a fault", faults)
	}
}

// R3

func TestAnswersAreTheCallersOwn(t *testing.T) {
	s := "inv p q enq [ab, {1, 2}]\nres p (λ, [3-4i])\n"
	l, _ := event.Parse(s)
	keep := deepCopy(l)
	b, _ := event.Encode(l)
	bytes := slices.Clone(b)
	m, _ := event.Decode(b)
	for i := range b {
		b[i] = 0xff
	}
	if !equal(m, unplaced(keep)) {
		t.Error("events share memory with their bytes:", m)
	}
	spoil(m)
	if again, _ := event.Decode(bytes); !equal(again, unplaced(keep)) {
		t.Error("Decode once more:", again)
	}
	spoil(l)
	if again, f := event.Parse(s); !equal(again, keep) || f != (api.Fault{}) {
		t.Error("Parse once more:", again, f)
	}
}

func TestNothingHandedInIsChanged(t *testing.T) {
	for _, l := range samples() {
		keep := deepCopy(l)
		event.Print(l)
		b, _ := event.Encode(l)
		event.Same(l, l)
		if !equal(l, keep) {
			t.Fatalf("events were changed: %.300v", keep)
		}
		bytes := slices.Clone(b)
		event.Decode(b)
		if !slices.Equal(b, bytes) {
			t.Fatalf("bytes were changed: %.300x", bytes)
		}
	}
}
