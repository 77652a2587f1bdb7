package value_test

import (
	"bytes"
	"encoding/hex"
	"math"
	"math/rand"
	"slices"
	"strings"
	"testing"

	"sextant/api"
	"sextant/value"
)

// P4.5

func TestEncode(t *testing.T) {
	for _, x := range []struct {
		v    api.Value
		want string
	}{
		{set(integer(1), integer(3)), "070202020206"},
		{truth(0), "0100"},
		{truth(1), "0101"},
		{integer(0), "0200"},
		{integer(-1), "0201"},
		{integer(64), "028001"},
		{integer(math.MaxInt64), "02feffffffffffffffff01"},
		{integer(math.MinInt64), "02ffffffffffffffffff01"},
		{gauss(3, -4), "030607"},
		{gauss(-(1 << 20), 1<<20), "03ffff7f80808001"},
		{symbol("ab"), "04026162"},
		{symbol("λ'"), "0403cebb27"},
		{tuple(), "0500"},
		{list(), "0600"},
		{set(), "0700"},
		{tuple(list(), integer(1)), "050206000202"},
	} {
		if b, e := value.Encode(x.v); hex.EncodeToString(b) != x.want || e != api.OK {
			t.Errorf("Encode(%v) = %x, %d, want %s", x.v, b, e, x.want)
		}
	}
	for _, v := range samples() {
		if b, e := value.Encode(v); !bytes.Equal(b, modelBytes(v)) || e != api.OK {
			t.Fatalf("Encode(%v) = %x, %d", v, b, e)
		}
	}
}

func TestEncodeAndPrintRefuseWrongValues(t *testing.T) {
	for why, v := range wrong() {
		if b, e := value.Encode(v); len(b) != 0 || e != api.ErrValue {
			t.Errorf("Encode of %s: %x, %d", why, b, e)
		}
		if s, e := value.Print(v); s != "" || e != api.ErrValue {
			t.Errorf("Print of %s: %q, %d", why, s, e)
		}
	}
}

// P4.6

func TestDecodeReadsABeginning(t *testing.T) {
	for _, v := range samples() {
		b := modelBytes(v)
		for _, tail := range []string{"", "\x00", "\x02\x02", "more", strings.Repeat("\xff", 300)} {
			w, n, e := value.Decode(append(slices.Clone(b), tail...))
			if !same(w, v) || n != len(b) || e != api.OK {
				t.Fatalf("Decode(%x and %q) = %v, %d, %d", b, tail, w, n, e)
			}
		}
	}
}

func TestDecodeRefusesWhatIsCutOff(t *testing.T) {
	l := samples()
	for _, v := range append(l[:300], wide(200), symbol(strings.Repeat("ω", 32))) {
		b := modelBytes(v)
		for i := range min(len(b), 2000) {
			if w, n, e := value.Decode(b[:i]); !zero(w) || n != 0 || e != api.ErrForm {
				t.Fatalf("Decode(%x) = %v, %d, %d", b[:i], w, n, e)
			}
		}
	}
	if w, n, e := value.Decode(nil); !zero(w) || n != 0 || e != api.ErrForm {
		t.Errorf("Decode(nil) = %v, %d, %d", w, n, e)
	}
}

func TestDecodeRefuses(t *testing.T) {
	for why, s := range map[string]string{
		"no kind 0":                      "00",
		"no kind 8":                      "08",
		"no kind 8 with a number":        "0802",
		"no kind 255":                    "ff00",
		"a truth of 2":                   "0102",
		"a number in too many bytes":     "028000",
		"a number above 64 bits":         "02ffffffffffffffffff02",
		"a Gaussian part above":          "038280800100",
		"a Gaussian part below":          "038180800100",
		"an imaginary part above":        "030082808001",
		"a symbol without text":          "0400",
		"a symbol true":                  "040474727565",
		"a symbol false":                 "040566616c7365",
		"a symbol with a blank":          "0402" + "6120",
		"a symbol of a broken byte":      "0402" + "61ff",
		"a symbol of 33 runes":           "0421" + strings.Repeat("61", 33),
		"a symbol of 200 runes":          "04c801" + strings.Repeat("61", 200),
		"a symbol's size in three bytes": "0481800061",
		"a set that falls":               "070202040202",
		"a set of like ones":             "070202020202",
		"a set of like ones within":      "0501070202020202",
		"a wrong item":                   "06020202" + "0102",
		"an item of no kind":             "060109",
		"a count in too many bytes":      "068000",
		"items missing":                  "06020202",
		"2^63 items":                     "0680808080808080808001" + strings.Repeat("0100", 5000),
		"2^64 - 1 items":                 "05ffffffffffffffffff01" + strings.Repeat("0100", 5000),
		"17 levels":                      strings.Repeat("0601", 16) + "0600",
		"17 levels, a number at the end": strings.Repeat("0601", 16) + "0202",
		"100000 levels":                  strings.Repeat("0601", 100000) + "0600",
		"4097 parts":                     "068020" + strings.Repeat("0100", 4096),
		"4097 parts in two lists":        "0602" + strings.Repeat("06ff0f"+strings.Repeat("0100", 2047), 2),
	} {
		b, err := hex.DecodeString(s)
		if err != nil {
			t.Fatal(why, err)
		}
		if v, n, e := value.Decode(b); !zero(v) || n != 0 || e != api.ErrForm {
			t.Errorf("%s: kind %d, %d, %d", why, v.Kind, n, e)
		}
	}
}

// TestDecodeOfMuchNesting: a reader that went all the way down would run out of stack, which nothing recovers.
func TestDecodeOfMuchNesting(t *testing.T) {
	if v, n, e := value.Decode(bytes.Repeat([]byte{6, 1}, 1<<23)); !zero(v) || n != 0 || e != api.ErrForm {
		t.Errorf("2^23 levels: kind %d, %d, %d", v.Kind, n, e)
	}
}

func TestDecodeAtTheLimits(t *testing.T) {
	for why, s := range map[string]string{
		"16 levels":            strings.Repeat("0601", 15) + "0600",
		"4096 parts":           "06ff1f" + strings.Repeat("0100", 4095),
		"4096 parts in two":    "0602" + "06ff0f" + strings.Repeat("0100", 2047) + "06fe0f" + strings.Repeat("0100", 2046),
		"Gaussian parts":       "0380808001ffff7f",
		"a symbol of 32 runes": "0440" + strings.Repeat("cf89", 32),
	} {
		b, err := hex.DecodeString(s)
		if err != nil {
			t.Fatal(why, err)
		}
		if v, n, e := value.Decode(b); n != len(b) || e != api.OK || value.Check(v) != api.OK || !bytes.Equal(modelBytes(v), b) {
			t.Errorf("%s: kind %d, %d, %d", why, v.Kind, n, e)
		}
	}
}

// TestDecodeOfSmallRows: of all rows of a few bytes just those are read of which a beginning is a value's bytes.
func TestDecodeOfSmallRows(t *testing.T) {
	known := map[string]api.Value{}
	single := []api.Value{truth(0), truth(1), tuple(), list(), set(), symbol("a")}
	for n := int64(-4); n <= 4; n++ {
		single = append(single, integer(n))
		for im := int64(-4); im <= 4; im++ {
			single = append(single, gauss(n, im))
		}
	}
	all := slices.Clone(single)
	for _, a := range single {
		all = append(all, tuple(a), list(a), set(a))
		for _, b := range single {
			all = append(all, tuple(a, b), list(a, b))
			if modelCompare(a, b) < 0 {
				all = append(all, set(a, b))
			}
		}
	}
	for _, v := range all {
		all = append(all, tuple(v), list(v), set(v), tuple(tuple(v)), list(list(v)))
	}
	for _, v := range all {
		known[string(modelBytes(v))] = v
	}
	pieces := []string{"\x00", "\x01", "\x02", "\x03", "\x04", "\x05", "\x06", "\x07", "a", "\x80"}
	for s := range everyText(6, pieces...) {
		if len(s) == 6 && s[0] < 5 {
			continue
		}
		want, size, fault := api.Value{}, 0, api.ErrForm
		for n := range len(s) + 1 {
			if v, ok := known[s[:n]]; ok {
				want, size, fault = v, n, api.OK
			}
		}
		v, n, e := value.Decode([]byte(s))
		if e == api.OK && fault != api.OK {
			if got := modelBytes(v); string(got) != s[:n] || value.Check(v) != api.OK {
				t.Fatalf("Decode(%x) = %v, %d", s, v, n)
			}
			continue
		}
		if !same(v, want) || n != size || e != fault {
			t.Fatalf("Decode(%x) = %v, %d, %d, want %v, %d, %d", s, v, n, e, want, size, fault)
		}
	}
}

// TestDecodeOfSpoiltBytes: what is read of bytes that were changed is what lays them down.
func TestDecodeOfSpoiltBytes(t *testing.T) {
	r := rand.New(rand.NewSource(46))
	l := samples()
	for range 30000 {
		b := modelBytes(l[r.Intn(len(l))])
		if len(b) > 500 {
			continue
		}
		for range 1 + r.Intn(3) {
			b[r.Intn(len(b))] = byte(r.Intn(1 << (1 + r.Intn(8))))
		}
		keep := slices.Clone(b)
		v, n, e := value.Decode(b)
		if !bytes.Equal(b, keep) {
			t.Fatalf("Decode has changed %x", keep)
		}
		if e == api.OK && (value.Check(v) != api.OK || !bytes.Equal(modelBytes(v), b[:n])) || e != api.OK && (e != api.ErrForm || n != 0 || !zero(v)) {
			t.Fatalf("Decode(%x) = %v, %d, %d", b, v, n, e)
		}
	}
}

func TestBytesAreTheCallersOwn(t *testing.T) {
	v := parsed(t, "[ab, {1, 2}, (λ, 3-4i)]")
	b, _ := value.Encode(v)
	keep := slices.Clone(b)
	w, _, _ := value.Decode(b)
	for i := range b {
		b[i] = 0xff
	}
	if !same(w, v) {
		t.Error("a value shares memory with its bytes:", w)
	}
	if again, _ := value.Encode(v); !bytes.Equal(again, keep) {
		t.Errorf("Encode once more: %x", again)
	}
}
