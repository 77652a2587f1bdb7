package event

import (
	"sextant/api"
	"sextant/octet"
	"sextant/value"
)

// Encode lays events down as bytes.
func Encode(l []api.Event) ([]byte, api.Errno) {
	b := octet.Uvarint(uint64(len(l)))
	for _, ev := range l {
		v, e := value.Encode(ev.Value)
		if e != api.OK || !framed(ev) {
			return nil, api.ErrEvent
		}
		b = append(b, byte(ev.Kind))
		b = append(b, octet.Text(ev.Proc)...)
		if ev.Kind == api.EvInv {
			b = append(b, octet.Text(ev.Object)...)
			b = append(b, octet.Text(ev.Op)...)
		}
		b = append(b, v...)
	}
	return b, api.OK
}

// Decode reads what Encode lays down, and nothing else.
func Decode(b []byte) (l []api.Event, e api.Errno) {
	defer func() {
		if thrown := recover(); thrown != nil {
			l, e = nil, thrown.(api.Errno)
		}
	}()
	d := decoder{bytes: b, reader: octet.NewReader(b)}
	for range sure(d.reader.Uvarint()) {
		l = append(l, d.event())
	}
	if d.reader.End() != api.OK {
		panic(api.ErrEvents)
	}
	return l, api.OK
}

// decoder reads events; where there is none it gives up by a panic with the error.
type decoder struct {
	bytes  []byte
	reader *octet.Reader
}

func (d *decoder) event() api.Event {
	ev := api.Event{Kind: api.EventKind(sure(d.reader.U8()))}
	ev.Proc = sure(d.reader.Text())
	if ev.Kind == api.EvInv {
		ev.Object = sure(d.reader.Text())
		ev.Op = sure(d.reader.Text())
	}
	if !framed(ev) {
		panic(api.ErrEvents)
	}
	ev.Value = d.value()
	return ev
}

// value reads a value by layer 4, which takes bytes and no reader, and takes the reader past it.
func (d *decoder) value() api.Value {
	v, size, e := value.Decode(d.bytes[len(d.bytes)-d.reader.Left():])
	sure(v, e)
	for range size {
		sure(d.reader.U8())
	}
	return v
}

// sure answers what was read, and gives up if nothing was.
func sure[T any](read T, e api.Errno) T {
	if e != api.OK {
		panic(api.ErrEvents)
	}
	return read
}
