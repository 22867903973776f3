// Package wire: numbers, byte strings, the sum: see DOC.md, chapter 1.
package wire

import "kiln/api"

const (
	groupBits = 7
	moreBit   = 1 << groupBits // set in every byte of a Uint but its last
	maxUint   = 10             // bytes of the longest Uint
	lastMost  = 1              // of 64 bits nine groups leave one to the tenth byte
	maxFixed  = 8
)

// sumSteps: what four of the sum's bit steps make of a register's lowest four bits. (A table a byte would be longer than a package-level table may be.)
var sumSteps = [16]uint32{
	0x00000000, 0x1db71064, 0x3b6e20c8, 0x26d930ac,
	0x76dc4190, 0x6b6b51f4, 0x4db26158, 0x5005713c,
	0xedb88320, 0xf00f9344, 0xd6d6a3e8, 0xcb61b38c,
	0x9b64c2b0, 0x86d3d2d4, 0xa00ae278, 0xbdbdf21c,
}

// Uint writes a number, seven bits a byte, the lowest ones first.
func Uint(v uint64) []byte {
	b := make([]byte, 0, maxUint)
	for v >= moreBit {
		b = append(b, byte(v)|moreBit)
		v >>= groupBits
	}
	return append(b, byte(v))
}

// ReadUint reads such a number: it, and the place behind it.
func ReadUint(b []byte, at int) (uint64, int, api.Errno) {
	if outside(b, at) {
		return 0, 0, api.ErrArg
	}
	var v uint64
	for i, c := range b[at:] {
		if i == maxUint-1 && c > lastMost {
			return 0, 0, api.ErrWide
		}
		if c == 0 && i > 0 {
			return 0, 0, api.ErrForm
		}
		v |= uint64(c&^moreBit) << (groupBits * i)
		if c < moreBit {
			return v, at + i + 1, api.OK
		}
	}
	return 0, 0, api.ErrShort
}

// Bytes writes a byte string, its length ahead of it.
func Bytes(b []byte) []byte {
	return append(Uint(uint64(len(b))), b...)
}

// ReadBytes reads a byte string of at most so many bytes: it, and the place behind it.
func ReadBytes(b []byte, at, most int) ([]byte, int, api.Errno) {
	if outside(b, at) || most < 0 {
		return nil, 0, api.ErrArg
	}
	n, from, err := ReadUint(b, at)
	if err != api.OK {
		return nil, 0, err
	}
	if n > uint64(most) {
		return nil, 0, api.ErrBig
	}
	if n > uint64(len(b)-from) {
		return nil, 0, api.ErrShort
	}
	to := from + int(n)
	return append([]byte(nil), b[from:to]...), to, api.OK
}

// Fixed writes a number in n bytes, the lowest first.
func Fixed(v uint64, n int) ([]byte, api.Errno) {
	if n < 1 || n > maxFixed {
		return nil, api.ErrArg
	}
	if v>>(8*n) != 0 {
		return nil, api.ErrWide
	}
	b := make([]byte, n)
	for i := range b {
		b[i] = byte(v >> (8 * i))
	}
	return b, api.OK
}

// ReadFixed reads a number of n bytes: it, and the place behind it.
func ReadFixed(b []byte, at, n int) (uint64, int, api.Errno) {
	if outside(b, at) || n < 1 || n > maxFixed {
		return 0, 0, api.ErrArg
	}
	if n > len(b)-at {
		return 0, 0, api.ErrShort
	}
	var v uint64
	for i, c := range b[at : at+n] {
		v |= uint64(c) << (8 * i)
	}
	return v, at + n, api.OK
}

// Sum is the CRC-32 (IEEE) of the parts, one behind the other.
func Sum(parts ...[]byte) uint32 {
	register := ^uint32(0)
	for _, part := range parts {
		for _, c := range part {
			register ^= uint32(c)
			register = register>>4 ^ sumSteps[register&15]
			register = register>>4 ^ sumSteps[register&15]
		}
	}
	return ^register
}

// outside tells whether no Read may begin there; behind the last byte one may (and finds none).
func outside(b []byte, at int) bool {
	return at < 0 || at > len(b)
}
