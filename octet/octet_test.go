package octet_test

import (
	"bytes"
	"encoding/binary"
	"encoding/hex"
	"hash/crc32"
	"math"
	"math/rand"
	"strings"
	"testing"

	"sextant/api"
	"sextant/octet"
)

// unsignedEdges: where the count of bytes changes, and the neighbours of all powers of two.
func unsignedEdges() []uint64 {
	l := []uint64{0, 300, math.MaxUint64}
	for i := range 64 {
		p := uint64(1) << i
		l = append(l, p-1, p, p+1)
	}
	return l
}

func signedEdges() []int64 {
	l := []int64{math.MinInt64, math.MaxInt64}
	for _, u := range unsignedEdges() {
		l = append(l, int64(u), -int64(u))
	}
	return l
}

// P1.1

func TestUvarintLaysSevenBitsAByte(t *testing.T) {
	for _, x := range []struct {
		v    uint64
		want string
	}{
		{0, "00"}, {1, "01"}, {127, "7f"}, {128, "8001"}, {300, "ac02"}, {16383, "ff7f"}, {16384, "808001"},
		{1 << 63, "80808080808080808001"}, {math.MaxUint64, "ffffffffffffffffff01"},
	} {
		if got := hex.EncodeToString(octet.Uvarint(x.v)); got != x.want {
			t.Errorf("Uvarint(%d) = %s, want %s", x.v, got, x.want)
		}
	}
	for _, v := range unsignedEdges() {
		if got, want := octet.Uvarint(v), binary.AppendUvarint(nil, v); !bytes.Equal(got, want) {
			t.Errorf("Uvarint(%d) = %x, want %x", v, got, want)
		}
	}
}

func TestVarintFoldsTheSign(t *testing.T) {
	for _, x := range []struct {
		v    int64
		want string
	}{
		{0, "00"}, {-1, "01"}, {1, "02"}, {-2, "03"}, {63, "7e"}, {-64, "7f"}, {64, "8001"}, {-65, "8101"},
		{math.MaxInt64, "feffffffffffffffff01"}, {math.MinInt64, "ffffffffffffffffff01"},
	} {
		if got := hex.EncodeToString(octet.Varint(x.v)); got != x.want {
			t.Errorf("Varint(%d) = %s, want %s", x.v, got, x.want)
		}
	}
	for _, v := range signedEdges() {
		if got, want := octet.Varint(v), binary.AppendVarint(nil, v); !bytes.Equal(got, want) {
			t.Errorf("Varint(%d) = %x, want %x", v, got, want)
		}
	}
}

func TestTextHasItsBytesCountedAhead(t *testing.T) {
	for _, x := range []struct{ s, want string }{
		{"", "\x00"},
		{"ab", "\x02ab"},
		{"é", "\x02\xc3\xa9"},
		{"\xff\x00", "\x02\xff\x00"},
		{strings.Repeat("x", 127), "\x7f" + strings.Repeat("x", 127)},
		{strings.Repeat("x", 128), "\x80\x01" + strings.Repeat("x", 128)},
	} {
		if got := string(octet.Text(x.s)); got != x.want {
			t.Errorf("Text(%q) = %q", x.s, got)
		}
	}
}

// P1.2

func TestCrcIsThatOfAllPartsInARow(t *testing.T) {
	digits := []byte("123456789")
	for cut := 0; cut <= len(digits); cut++ {
		if got := octet.Crc(digits[:cut], nil, digits[cut:]); got != 0xCBF43926 {
			t.Errorf("cut at %d: %08x", cut, got)
		}
	}
	if octet.Crc() != 0 || octet.Crc(nil) != 0 || octet.Crc([]byte{}, nil) != 0 {
		t.Error("the sum of nothing is 0")
	}
	if octet.Crc([]byte("ab"), []byte("c")) == octet.Crc([]byte("c"), []byte("ab")) {
		t.Error("the order of the parts must count")
	}
	chance := rand.New(rand.NewSource(1))
	for n := range 300 {
		b := make([]byte, n)
		chance.Read(b)
		if got, want := octet.Crc(b), crc32.ChecksumIEEE(b); got != want {
			t.Errorf("%x: %08x, want %08x", b, got, want)
		}
	}
}

func TestSealLaysTheSumBehindLowestFirst(t *testing.T) {
	for _, x := range []struct{ b, want string }{
		{"", "\x00\x00\x00\x00"},
		{"123456789", "123456789\x26\x39\xf4\xcb"},
	} {
		if got := string(octet.Seal([]byte(x.b))); got != x.want {
			t.Errorf("Seal(%q) = %q", x.b, got)
		}
	}
	if got := octet.Seal(nil); string(got) != "\x00\x00\x00\x00" {
		t.Errorf("Seal(nil) = %x", got)
	}
}

func TestOpenRefusesWhatIsShortOrHasAnotherSum(t *testing.T) {
	for _, x := range []struct {
		b    string
		want api.Errno
	}{
		{"", api.ErrShort},
		{"\x00", api.ErrShort},
		{"\x00\x00\x00", api.ErrShort},
		{"\x01\x00\x00\x00", api.ErrSum},
		{"\x00\x00\x00\x00\x00", api.ErrSum},
		{"123456789\xcb\xf4\x39\x26", api.ErrSum},
		{"123456789\x26\x39\xf4", api.ErrSum},
		{"123456789\x26\x39\xf4\xcb\x00", api.ErrSum},
	} {
		if got, e := octet.Open([]byte(x.b)); len(got) != 0 || e != x.want {
			t.Errorf("Open(%q) = %q, %d, want %d", x.b, got, e, x.want)
		}
	}
	if got, e := octet.Open(nil); len(got) != 0 || e != api.ErrShort {
		t.Errorf("Open(nil) = %q, %d", got, e)
	}
	if got, e := octet.Open([]byte("\x00\x00\x00\x00")); len(got) != 0 || e != api.OK {
		t.Errorf("the seal of nothing: %q, %d", got, e)
	}
	if got, e := octet.Open([]byte("123456789\x26\x39\xf4\xcb")); string(got) != "123456789" || e != api.OK {
		t.Errorf("the seal of nine digits: %q, %d", got, e)
	}
}

// P1.3

func TestHexAndBack(t *testing.T) {
	if octet.Hex(nil) != "" || octet.Hex([]byte{0x00, 0x0f, 0xa0, 0xff}) != "000fa0ff" {
		t.Error("Hex")
	}
	var all []byte
	for i := range 256 {
		all = append(all, byte(i))
	}
	s := octet.Hex(all)
	if s != hex.EncodeToString(all) {
		t.Error("Hex of all bytes:", s)
	}
	if b, e := octet.Unhex(s); !bytes.Equal(b, all) || e != api.OK {
		t.Errorf("Unhex of all bytes: %x, %d", b, e)
	}
	if b, e := octet.Unhex(""); len(b) != 0 || e != api.OK {
		t.Errorf("Unhex of nothing: %x, %d", b, e)
	}
}

func TestUnhexRefusesAllElse(t *testing.T) {
	for _, s := range []string{
		"0", "000", "0F", "F0", "0g", "g0", "0x00", " 00 ", "00\n0", "-1", "00ag",
		"é", "é0é", "００", "０a", "\xff\xff", "0\xff", "\x00\x00", "ab\u0130\u0130",
	} {
		if b, e := octet.Unhex(s); len(b) != 0 || e != api.ErrArg {
			t.Errorf("Unhex(%q) = %x, %d", s, b, e)
		}
	}
	for c := range 256 {
		one := string([]byte{byte(c)})
		want := api.ErrArg
		if strings.Contains("0123456789abcdef", one) {
			want = api.OK
		}
		for _, s := range []string{one + "0", "0" + one, "ff" + one + "0"} {
			if _, e := octet.Unhex(s); e != want {
				t.Errorf("Unhex(%q): %d, want %d", s, e, want)
			}
		}
	}
}

// P1.5

// turned answers b with n bits turned from a place on; the place of bit 0 of a byte is its lowest or its highest bit.
func turned(b []byte, from, n int, lowFirst bool) []byte {
	out := bytes.Clone(b)
	for i := from; i < from+n; i++ {
		if lowFirst {
			out[i/8] ^= 1 << (i % 8)
		} else {
			out[i/8] ^= 0x80 >> (i % 8)
		}
	}
	return out
}

func TestNeighbouringBitsTurnedAreTold(t *testing.T) {
	data := []byte("a row of data")
	sealed := octet.Seal(data)
	if b, e := octet.Open(sealed); !bytes.Equal(b, data) || e != api.OK {
		t.Fatalf("%q, %d", b, e)
	}
	for n := 1; n <= 32; n++ {
		for from := 0; from+n <= 8*len(data); from++ {
			for _, lowFirst := range []bool{true, false} {
				if b, e := octet.Open(turned(sealed, from, n, lowFirst)); len(b) != 0 || e != api.ErrSum {
					t.Errorf("%d bits from %d: %q, %d", n, from, b, e)
				}
			}
		}
	}
}

func TestSealAndOpenAreThereAndBack(t *testing.T) {
	chance := rand.New(rand.NewSource(2))
	for n := range 200 {
		b := make([]byte, n)
		chance.Read(b)
		if got, e := octet.Open(octet.Seal(b)); !bytes.Equal(got, b) || e != api.OK {
			t.Errorf("%x: %x, %d", b, got, e)
		}
	}
}

// R3

func TestSealAndOpenShareNoMemory(t *testing.T) {
	room := []byte("abcdefgh")
	sealed := octet.Seal(room[:3])
	if string(room) != "abcdefgh" {
		t.Errorf("Seal wrote behind what it was handed: %q", room)
	}
	room[0] = 'x'
	if string(sealed[:3]) != "abc" {
		t.Errorf("Seal kept what it was handed: %q", sealed)
	}
	data, _ := octet.Open(sealed)
	again, _ := octet.Open(sealed)
	data[0] = 'y'
	if string(sealed[:3]) != "abc" || string(again) != "abc" {
		t.Errorf("Open shares: %q, %q", sealed, again)
	}
	_ = append(data, 'z')
	if b, e := octet.Open(sealed); string(b) != "abc" || e != api.OK {
		t.Errorf("behind Open's answer: %q, %d", b, e)
	}
}

func TestAnswersAreOfTheirOwn(t *testing.T) {
	for name, call := range map[string]func() []byte{
		"Uvarint": func() []byte { return octet.Uvarint(300) },
		"Varint":  func() []byte { return octet.Varint(-300) },
		"Text":    func() []byte { return octet.Text("abc") },
		"Seal":    func() []byte { return octet.Seal(nil) },
		"Unhex":   func() []byte { b, _ := octet.Unhex("0123"); return b },
	} {
		first, want := call(), string(call())
		for i := range first {
			first[i] ^= 0xff
		}
		if got := string(call()); got != want {
			t.Errorf("%s: %q, then %q", name, want, got)
		}
	}
}
