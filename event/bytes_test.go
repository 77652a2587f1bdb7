package event_test

import (
	"bytes"
	"encoding/hex"
	"math/rand"
	"slices"
	"strings"
	"testing"

	"sextant/api"
	"sextant/event"
)

// P6.4

func TestEncode(t *testing.T) {
	for _, x := range []struct {
		l    []api.Event
		want string
	}{
		{nil, "00"},
		{[]api.Event{}, "00"},
		{[]api.Event{res("p", truth(1))}, "01" + "02" + "0170" + "0101"},
		{[]api.Event{inv("p1", "q", "enq", integer(3))}, "01" + "01" + "027031" + "0171" + "03656e71" + "0206"},
		{[]api.Event{inv("p1", "q", "enq", integer(3)), res("p1", truth(1))}, "02" + "01" + "027031" + "0171" + "03656e71" + "0206" + "02" + "027031" + "0101"},
		{[]api.Event{res("λ'", tuple(integer(1)))}, "01" + "02" + "03cebb27" + "05010202"},
		{[]api.Event{res("p", list())}, "01" + "02" + "0170" + "0600"},
		{slices.Repeat([]api.Event{res("p", truth(0))}, 200), "c801" + strings.Repeat("02"+"0170"+"0100", 200)},
	} {
		if b, e := event.Encode(x.l); hex.EncodeToString(b) != x.want || e != api.OK {
			t.Errorf("Encode(%v) = %x, %d, want %s", x.l, b, e, x.want)
		}
	}
	for _, l := range samples() {
		if b, e := event.Encode(l); !bytes.Equal(b, modelBytes(l)) || e != api.OK {
			t.Fatalf("Encode(%.300v) = %.300x, %d", l, b, e)
		}
	}
}

// P6.5

func TestDecode(t *testing.T) {
	for _, l := range samples() {
		for i := range l {
			l[i].At = api.Spot{Off: i, Line: 1, Col: 1}
		}
		if m, e := event.Decode(modelBytes(l)); !equal(m, unplaced(l)) || e != api.OK {
			t.Fatalf("Decode of %.300v: %.300v, %d", l, m, e)
		}
	}
}

// refuse fails unless bytes are refused.
func refuse(t *testing.T, why string, b []byte) {
	t.Helper()
	if l, e := event.Decode(b); len(l) != 0 || e != api.ErrEvents {
		t.Errorf("Decode, %s, of %.300x: %.300v, %d", why, b, l, e)
	}
}

func TestDecodeRefusesWhatIsCutOffOrHasATail(t *testing.T) {
	for _, l := range samples() {
		b := modelBytes(l)
		for i := range min(len(b), 300) {
			refuse(t, "cut off", b[:i])
		}
		for _, tail := range []string{"\x00", "\x02\x01p\x01\x00", "more"} {
			refuse(t, "with a tail", append(slices.Clone(b), tail...))
		}
	}
	refuse(t, "nothing", nil)
}

// TestDecodeRefusesWrongEvents lays events down that are not right, or too few or too many of them.
func TestDecodeRefusesWrongEvents(t *testing.T) {
	for why, ev := range wrong() {
		if ev.Kind != api.EvInv && ev.Kind != api.EvRes || ev.Kind == api.EvRes && ev.Object+ev.Op != "" || strings.HasPrefix(why, "the argument") || strings.HasPrefix(why, "the answer") {
			continue
		}
		refuse(t, why, modelBytes([]api.Event{ev}))
		refuse(t, why, modelBytes([]api.Event{res("p", truth(1)), ev}))
	}
}

func TestDecodeRefuses(t *testing.T) {
	for why, s := range map[string]string{
		"a count in too many bytes":    "8000",
		"a count in three bytes":       "818000" + "02" + "0170" + "0101",
		"a count above 64 bits":        "ffffffffffffffffff02",
		"one event too few":            "00" + "02" + "0170" + "0101",
		"one event too many":           "02" + "02" + "0170" + "0101",
		"2^63 events":                  "80808080808080808001" + strings.Repeat("02"+"0170"+"0101", 1000),
		"2^64 - 1 events":              "ffffffffffffffffff01" + strings.Repeat("02"+"0170"+"0101", 1000),
		"kind 0":                       "01" + "00" + "0170" + "0101",
		"kind 3":                       "01" + "03" + "0170" + "0101",
		"kind 3 with names":            "01" + "03" + "0170" + "0171" + "0165" + "0101",
		"kind 129":                     "01" + "8100" + "0170" + "0171" + "0165" + "0101",
		"a process without letters":    "01" + "02" + "00" + "0101",
		"a process true":               "01" + "02" + "0474727565" + "0101",
		"a process' size too long":     "01" + "02" + "810070" + "0101",
		"a process of 2^64 - 1 bytes":  "01" + "02" + "ffffffffffffffffff01" + "70" + "0101",
		"an operation false":           "01" + "01" + "0170" + "0171" + "0566616c7365" + "0101",
		"an invocation with few names": "01" + "01" + "0170" + "0101",
		"a response with three names":  "01" + "02" + "0170" + "0171" + "0165" + "0101",
		"no value":                     "01" + "02" + "0170",
		"a value of no kind":           "01" + "02" + "0170" + "08",
		"a truth 2":                    "01" + "02" + "0170" + "0102",
		"a number in too many bytes":   "01" + "02" + "0170" + "028000",
		"a set that falls":             "01" + "02" + "0170" + "070202040202",
		"17 levels":                    "01" + "02" + "0170" + strings.Repeat("0601", 16) + "0600",
		"4097 parts":                   "01" + "02" + "0170" + "068020" + strings.Repeat("0100", 4096),
		"much nesting":                 "01" + "02" + "0170" + strings.Repeat("0601", 1<<20),
	} {
		b, err := hex.DecodeString(s)
		if err != nil {
			t.Fatal(why, err)
		}
		refuse(t, why, b)
	}
}

// holdDecode fails unless what was read is what lays these bytes down, and nothing was read where there is an error.
func holdDecode(t *testing.T, b []byte) bool {
	t.Helper()
	l, e := event.Decode(b)
	if e == api.OK {
		if again, e := event.Encode(l); e != api.OK || !bytes.Equal(again, b) || !bytes.Equal(modelBytes(l), b) || !equal(l, unplaced(l)) {
			t.Fatalf("Decode(%x) = %v", b, l)
		}
		return true
	}
	if len(l) != 0 || e != api.ErrEvents {
		t.Fatalf("Decode(%x) = %v, %d", b, l, e)
	}
	return false
}

// TestDecodeOfSmallRows: of all rows of a few bytes just those of right events are read.
func TestDecodeOfSmallRows(t *testing.T) {
	values := []api.Value{truth(0), truth(1), tuple(), list(), set(), integer(0), integer(-1), integer(1), integer(-56), integer(56)}
	known := map[string]bool{}
	for _, v := range values {
		for _, l := range [][]api.Event{{res("p", v)}, {inv("p", "p", "p", v)}, {res("pp", v)}} {
			known[string(modelBytes(l))] = true
		}
	}
	read := 0
	pieces := []string{"\x00", "\x01", "\x02", "\x05", "p", "\x80"}
	for s := range everyText(7, pieces...) {
		if got := holdDecode(t, []byte(s)); got {
			read++
		} else if known[s] || s == "\x00" {
			t.Fatalf("Decode(%x): refused", s)
		}
	}
	for s := range everyText(6, pieces...) {
		s = "\x01\x01\x01p" + s
		if got := holdDecode(t, []byte(s)); got {
			read++
		} else if known[s] {
			t.Fatalf("Decode(%x): refused", s)
		}
	}
	if read < 15 {
		t.Errorf("only %d rows were read", read)
	}
}

func TestDecodeOfSpoiltBytes(t *testing.T) {
	r := rand.New(rand.NewSource(65))
	read := 0
	for range 60000 {
		b := modelBytes(chance(r, 4))
		for range 1 + r.Intn(2) {
			b[r.Intn(len(b))] = byte(r.Intn(1 << (1 + r.Intn(8))))
		}
		keep := slices.Clone(b)
		if holdDecode(t, b) {
			read++
		}
		if !bytes.Equal(b, keep) {
			t.Fatalf("Decode has changed %x", keep)
		}
	}
	if read < 1000 {
		t.Errorf("only %d of 60000 were read", read)
	}
}

// TestDecodeOfManyEvents: no event costs a copy of all bytes behind it.
func TestDecodeOfManyEvents(t *testing.T) {
	l := slices.Repeat([]api.Event{inv("p", "q", "enq", list(integer(1), symbol("a")))}, 300000)
	if m, e := event.Decode(modelBytes(l)); !equal(m, l) || e != api.OK {
		t.Errorf("Decode of many events: %d, %d", len(m), e)
	}
}
