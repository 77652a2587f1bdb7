package value

import (
	"unicode/utf8"

	"sextant/api"
	"sextant/octet"
)

// headRoom is more than a right part lays down ahead of its items: a kind, a number of at most ten bytes, and a name, or another number.
const headRoom = 1 + 10 + api.MaxName*utf8.UTFMax

// Encode lays a value down.
func Encode(v api.Value) ([]byte, api.Errno) {
	if !right(v) {
		return nil, api.ErrValue
	}
	return encoded(nil, v), api.OK
}

// encoded answers b, with a right value's bytes behind.
func encoded(b []byte, v api.Value) []byte {
	b = append(b, byte(v.Kind))
	switch v.Kind {
	case api.KBool:
		return append(b, byte(v.Int))
	case api.KInt:
		return append(b, octet.Varint(v.Int)...)
	case api.KGauss:
		b = append(b, octet.Varint(v.Int)...)
		return append(b, octet.Varint(v.Im)...)
	case api.KSym:
		return append(b, octet.Text(v.Text)...)
	}
	b = append(b, octet.Uvarint(uint64(len(v.Items)))...)
	for _, item := range v.Items {
		b = encoded(b, item)
	}
	return b
}

// Decode reads the value at the beginning of bytes, and tells how many they are.
func Decode(b []byte) (v api.Value, size int, e api.Errno) {
	defer func() {
		if thrown := recover(); thrown != nil {
			v, size, e = api.Value{}, 0, thrown.(api.Errno)
		}
	}()
	d := decoder{bytes: b}
	v = d.value()
	if !right(v) {
		panic(api.ErrForm)
	}
	return v, d.at, api.OK
}

// decoder reads values that need not be right; where there is none it gives up by a panic with the error.
type decoder struct {
	bytes []byte
	at    int
	parts int
}

// value counts the parts as they begin: no bytes, whatever numbers of items they name, lead it further than a right value goes.
func (d *decoder) value() api.Value {
	d.parts++
	if d.parts > api.MaxNodes {
		panic(api.ErrForm)
	}
	v, items := d.head()
	for range items {
		v.Items = append(v.Items, d.value())
	}
	return v
}

// head reads a part but for its items, and how many these are. Its reader is given a few bytes alone: a reader copies what it is given, and behind one value many others may stand.
func (d *decoder) head() (api.Value, uint64) {
	ahead := d.bytes[d.at:min(d.at+headRoom, len(d.bytes))]
	r := octet.NewReader(ahead)
	v := api.Value{Kind: api.Kind(sure(r.U8()))}
	items := uint64(0)
	switch v.Kind {
	case api.KBool:
		v.Int = int64(sure(r.U8()))
	case api.KInt:
		v.Int = sure(r.Varint())
	case api.KGauss:
		v.Int = sure(r.Varint())
		v.Im = sure(r.Varint())
	case api.KSym:
		v.Text = sure(r.Text())
	case api.KTuple, api.KList, api.KSet:
		items = sure(r.Uvarint())
	}
	d.at += len(ahead) - r.Left()
	return v, items
}

// sure answers what was read, and gives up if nothing was.
func sure[T any](read T, e api.Errno) T {
	if e != api.OK {
		panic(api.ErrForm)
	}
	return read
}
