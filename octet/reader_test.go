package octet_test

import (
	"bytes"
	"math"
	"math/rand"
	"strings"
	"testing"

	"sextant/api"
	"sextant/octet"
)

func unhex(t *testing.T, s string) []byte {
	t.Helper()
	b, e := octet.Unhex(s)
	if e != api.OK {
		t.Fatal("no digits:", s)
	}
	return b
}

// P1.4

func TestU8TakesByteByByte(t *testing.T) {
	r := octet.NewReader([]byte{0x00, 0xff})
	for i, want := range []byte{0x00, 0xff} {
		if e := r.End(); e != api.ErrTail || r.Left() != 2-i {
			t.Errorf("ahead of byte %d: %d, %d", i, e, r.Left())
		}
		if c, e := r.U8(); c != want || e != api.OK {
			t.Errorf("byte %d: %d, %d", i, c, e)
		}
	}
	for range 2 {
		if c, e := r.U8(); c != 0 || e != api.ErrShort || r.Left() != 0 || r.End() != api.OK {
			t.Errorf("at the end: %d, %d, %d, %d", c, e, r.Left(), r.End())
		}
	}
}

func TestReaderOfNothingIsAReader(t *testing.T) {
	for _, b := range [][]byte{nil, {}} {
		r := octet.NewReader(b)
		if _, e := r.U8(); e != api.ErrShort {
			t.Error("U8:", e)
		}
		if _, e := r.Uvarint(); e != api.ErrShort {
			t.Error("Uvarint:", e)
		}
		if _, e := r.Varint(); e != api.ErrShort {
			t.Error("Varint:", e)
		}
		if _, e := r.Text(); e != api.ErrShort {
			t.Error("Text:", e)
		}
		if r.Left() != 0 || r.End() != api.OK {
			t.Error("Left, End:", r.Left(), r.End())
		}
	}
}

func TestUvarintReads(t *testing.T) {
	for _, x := range []struct {
		b    string
		want uint64
		left int
	}{
		{"00", 0, 0}, {"7f", 127, 0}, {"8001", 128, 0}, {"ac02", 300, 0}, {"0000", 0, 1}, {"01ff", 1, 1}, {"808001aabb", 16384, 2},
		{"ffffffffffffffff7f", 1<<63 - 1, 0},
		{"80808080808080808001", 1 << 63, 0},
		{"ffffffffffffffffff01", math.MaxUint64, 0},
		{"ffffffffffffffffff0180", math.MaxUint64, 1},
	} {
		r := octet.NewReader(unhex(t, x.b))
		if v, e := r.Uvarint(); v != x.want || e != api.OK || r.Left() != x.left {
			t.Errorf("%s: %d, %d, %d left", x.b, v, e, r.Left())
		}
	}
}

// wrongNumbers: rows of bytes with which no uvarint begins.
var wrongNumbers = []struct {
	b    string
	want api.Errno
}{
	{"", api.ErrShort},
	{"80", api.ErrShort},
	{"ff", api.ErrShort},
	{"8080", api.ErrShort},
	{"808080808080808080", api.ErrShort},
	{"ffffffffffffffffff", api.ErrShort},
	{"8000", api.ErrFar},
	{"ff00", api.ErrFar},
	{"800001", api.ErrFar},
	{"808000", api.ErrFar},
	{"ac8200", api.ErrFar},
	{"ffffffffffffffff00", api.ErrFar},
	{"ffffffffffffffffff00", api.ErrFar},
	{"ffffffffffffffffff02", api.ErrFar},
	{"80808080808080808002", api.ErrFar},
	{"ffffffffffffffffff7f", api.ErrFar},
	{"ffffffffffffffffff80", api.ErrFar},
	{"ffffffffffffffffff81", api.ErrFar},
	{"ffffffffffffffffff8101", api.ErrFar},
	{"80808080808080808080", api.ErrFar},
	{"8080808080808080808000", api.ErrFar},
}

func TestWrongNumbersAreToldAndNothingIsTaken(t *testing.T) {
	for _, x := range wrongNumbers {
		b := unhex(t, x.b)
		r := octet.NewReader(b)
		if v, e := r.Uvarint(); v != 0 || e != x.want || r.Left() != len(b) {
			t.Errorf("Uvarint of %s: %d, %d, %d left", x.b, v, e, r.Left())
		}
		if v, e := r.Varint(); v != 0 || e != x.want || r.Left() != len(b) {
			t.Errorf("Varint of %s: %d, %d, %d left", x.b, v, e, r.Left())
		}
		if s, e := r.Text(); s != "" || e != x.want || r.Left() != len(b) {
			t.Errorf("Text of %s: %q, %d, %d left", x.b, s, e, r.Left())
		}
		for i, want := range b {
			if c, e := r.U8(); c != want || e != api.OK {
				t.Errorf("byte %d of %s behind errors: %d, %d", i, x.b, c, e)
			}
		}
	}
}

func TestVarintReads(t *testing.T) {
	for _, x := range []struct {
		b    string
		want int64
	}{
		{"00", 0}, {"01", -1}, {"02", 1}, {"7e", 63}, {"7f", -64}, {"8001", 64},
		{"feffffffffffffffff01", math.MaxInt64}, {"ffffffffffffffffff01", math.MinInt64},
	} {
		r := octet.NewReader(unhex(t, x.b))
		if v, e := r.Varint(); v != x.want || e != api.OK || r.End() != api.OK {
			t.Errorf("%s: %d, %d", x.b, v, e)
		}
	}
}

func TestTextReads(t *testing.T) {
	for _, x := range []struct {
		b, want string
		left    int
	}{
		{"\x00", "", 0}, {"\x00a", "", 1}, {"\x02ab", "ab", 0}, {"\x02abc", "ab", 1}, {"\x02\xff\x00", "\xff\x00", 0},
		{"\x80\x01" + strings.Repeat("x", 129), strings.Repeat("x", 128), 1},
	} {
		r := octet.NewReader([]byte(x.b))
		if s, e := r.Text(); s != x.want || e != api.OK || r.Left() != x.left {
			t.Errorf("%q: %q, %d, %d left", x.b, s, e, r.Left())
		}
	}
}

func TestTextsThatAreCutAreToldAndNothingIsTaken(t *testing.T) {
	for _, s := range []string{
		"01", "036162", "8001" + "00", "ffffffff0f61", "ffffffffffffffff7f61", "80808080808080808001", "ffffffffffffffffff0161",
	} {
		b := unhex(t, s)
		r := octet.NewReader(b)
		if got, e := r.Text(); got != "" || e != api.ErrShort || r.Left() != len(b) || r.End() != api.ErrTail {
			t.Errorf("%s: %q, %d, %d left", s, got, e, r.Left())
		}
		if c, e := r.U8(); c != b[0] || e != api.OK {
			t.Errorf("%s: the first byte behind the error: %d, %d", s, c, e)
		}
	}
}

// P1.5

// item is something to write and to read again.
type item struct {
	write func() []byte
	reads func(r *octet.Reader) bool
}

func unsignedItem(v uint64) item {
	return item{func() []byte { return octet.Uvarint(v) }, func(r *octet.Reader) bool {
		got, e := r.Uvarint()
		return got == v && e == api.OK
	}}
}

func signedItem(v int64) item {
	return item{func() []byte { return octet.Varint(v) }, func(r *octet.Reader) bool {
		got, e := r.Varint()
		return got == v && e == api.OK
	}}
}

func textItem(s string) item {
	return item{func() []byte { return octet.Text(s) }, func(r *octet.Reader) bool {
		got, e := r.Text()
		return got == s && e == api.OK
	}}
}

func TestWhatIsWrittenEndToEndIsReadAgain(t *testing.T) {
	var items []item
	for _, v := range unsignedEdges() {
		items = append(items, unsignedItem(v))
	}
	for _, v := range signedEdges() {
		items = append(items, signedItem(v))
	}
	for n := range 300 {
		items = append(items, textItem(strings.Repeat("\xfeä", n)))
	}
	chance := rand.New(rand.NewSource(3))
	for range 20 {
		chance.Shuffle(len(items), func(i, j int) { items[i], items[j] = items[j], items[i] })
		var b []byte
		for _, x := range items {
			b = append(b, x.write()...)
		}
		r := octet.NewReader(b)
		for i, x := range items {
			if !x.reads(r) {
				t.Fatalf("item %d is not read again", i)
			}
		}
		if e := r.End(); e != api.OK {
			t.Fatal("End:", e)
		}
	}
}

// Whatever is read to its end is what the same numbers and texts are written as.
func checkOneForm(t *testing.T, b []byte) {
	t.Helper()
	r := octet.NewReader(b)
	if v, e := r.Uvarint(); e == api.OK && r.End() == api.OK && !bytes.Equal(octet.Uvarint(v), b) {
		t.Errorf("%x is read as %d", b, v)
	}
	r = octet.NewReader(b)
	if v, e := r.Varint(); e == api.OK && r.End() == api.OK && !bytes.Equal(octet.Varint(v), b) {
		t.Errorf("%x is read as %d, with a sign", b, v)
	}
	r = octet.NewReader(b)
	if s, e := r.Text(); e == api.OK && r.End() == api.OK && !bytes.Equal(octet.Text(s), b) {
		t.Errorf("%x is read as %q", b, s)
	}
}

func TestEachNumberAndTextHasOneForm(t *testing.T) {
	for i := range 1 << 16 {
		checkOneForm(t, []byte{byte(i)})
		checkOneForm(t, []byte{byte(i), byte(i >> 8)})
	}
	chance := rand.New(rand.NewSource(4))
	for range 50000 {
		b := make([]byte, 1+chance.Intn(12))
		for i := range b {
			b[i] = []byte{0x00, 0x01, 0x02, 0x7f, 0x80, 0x81, 0xff}[chance.Intn(7)]
			if i < len(b)-1 && chance.Intn(3) > 0 {
				b[i] |= 0x80
			}
		}
		checkOneForm(t, b)
	}
}

// R1

func TestReadersThatNoCallMadeSaySo(t *testing.T) {
	for name, r := range map[string]*octet.Reader{"nil": nil, "zero": {}} {
		for range 2 {
			if c, e := r.U8(); c != 0 || e != api.ErrNil {
				t.Errorf("%s: U8: %d, %d", name, c, e)
			}
			if v, e := r.Uvarint(); v != 0 || e != api.ErrNil {
				t.Errorf("%s: Uvarint: %d, %d", name, v, e)
			}
			if v, e := r.Varint(); v != 0 || e != api.ErrNil {
				t.Errorf("%s: Varint: %d, %d", name, v, e)
			}
			if s, e := r.Text(); s != "" || e != api.ErrNil {
				t.Errorf("%s: Text: %q, %d", name, s, e)
			}
			if r.Left() != 0 || r.End() != api.ErrNil {
				t.Errorf("%s: Left, End: %d, %d", name, r.Left(), r.End())
			}
		}
	}
}

// R3

func TestReaderKeepsNothingOfTheCallers(t *testing.T) {
	b := []byte("\x02ab\x05")
	r := octet.NewReader(b)
	clear(b)
	s, e := r.Text()
	v, e2 := r.Uvarint()
	if s != "ab" || e != api.OK || v != 5 || e2 != api.OK || r.End() != api.OK {
		t.Errorf("%q, %d, %d, %d", s, e, v, e2)
	}
}

func TestReadingChangesNothing(t *testing.T) {
	b := []byte("\x02ab\xac\x02\x01\x09")
	was := bytes.Clone(b)
	r := octet.NewReader(b)
	r.Text()
	r.Uvarint()
	r.Varint()
	r.U8()
	if r.End() != api.OK || !bytes.Equal(b, was) {
		t.Errorf("%x, was %x", b, was)
	}
}

// R4

func TestReadersKnowNothingOfOneAnother(t *testing.T) {
	b := []byte{1, 2, 3}
	one, two := octet.NewReader(b), octet.NewReader(b)
	one.U8()
	one.U8()
	if c, e := two.U8(); c != 1 || e != api.OK || two.Left() != 2 || one.Left() != 1 {
		t.Errorf("%d, %d, %d left and %d", c, e, two.Left(), one.Left())
	}
}
