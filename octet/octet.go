// Package octet is layer 1: numbers and texts as bytes, check sums, and hexadecimal digits.
package octet

import (
	"slices"

	"sextant/api"
)

const (
	more       = 0x80       // the bit of a byte of a uvarint that says that another one follows
	polynomial = 0xEDB88320 // of CRC-32 (IEEE), its lowest bit at the left
	sumSize    = 4          // bytes of a check sum
	digits     = "0123456789abcdef"
)

// Uvarint lays a number down in bytes of seven bits, the lowest first.
func Uvarint(v uint64) []byte {
	var b []byte
	for ; v >= more; v >>= 7 {
		b = append(b, byte(v)|more)
	}
	return append(b, byte(v))
}

// Varint lays a number with a sign down.
func Varint(v int64) []byte { return Uvarint(fold(v)) }

// fold turns v into 2v, or into -2v - 1 where v is below 0: the shift spreads the sign over all bits, so that no step leaves 64 bits.
func fold(v int64) uint64 { return uint64(v)<<1 ^ uint64(v>>63) }

// unfold is fold's way back.
func unfold(u uint64) int64 { return int64(u>>1) ^ -int64(u&1) }

// Text lays a text down, its length ahead.
func Text(s string) []byte { return append(Uvarint(uint64(len(s))), s...) }

// Crc is the CRC-32 of all parts, one behind the other.
func Crc(parts ...[]byte) uint32 {
	sum := ^uint32(0)
	for _, part := range parts {
		for _, c := range part {
			sum = crcByte(sum, c)
		}
	}
	return ^sum
}

func crcByte(sum uint32, c byte) uint32 {
	sum ^= uint32(c)
	for range 8 {
		sum = sum>>1 ^ polynomial*(sum&1)
	}
	return sum
}

// Seal lays the check sum behind bytes.
func Seal(b []byte) []byte { return slices.Concat(b, sumBytes(b)) }

func sumBytes(b []byte) []byte {
	sum := Crc(b)
	return []byte{byte(sum), byte(sum >> 8), byte(sum >> 16), byte(sum >> 24)}
}

// Open answers the bytes ahead of their check sum.
func Open(b []byte) ([]byte, api.Errno) {
	if len(b) < sumSize {
		return nil, api.ErrShort
	}
	data, sum := b[:len(b)-sumSize], b[len(b)-sumSize:]
	if !slices.Equal(sum, sumBytes(data)) {
		return nil, api.ErrSum
	}
	return slices.Clone(data), api.OK
}

// Hex writes bytes as digits, two a byte.
func Hex(b []byte) string {
	out := make([]byte, 0, 2*len(b))
	for _, c := range b {
		out = append(out, digits[c>>4], digits[c&15])
	}
	return string(out)
}

// Unhex reads what Hex writes, and nothing else.
func Unhex(s string) ([]byte, api.Errno) {
	if len(s)%2 != 0 {
		return nil, api.ErrArg
	}
	out := make([]byte, len(s)/2)
	for i, r := range s {
		d, ok := digit(r)
		if !ok {
			return nil, api.ErrArg
		}
		out[i/2] = out[i/2]<<4 | d
	}
	return out, api.OK
}

func digit(r rune) (byte, bool) {
	switch {
	case '0' <= r && r <= '9':
		return byte(r - '0'), true
	case 'a' <= r && r <= 'f':
		return byte(r-'a') + 10, true
	}
	return 0, false
}
