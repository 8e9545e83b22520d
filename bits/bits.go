// Package bits is numbers as bytes: see DOC.md, chapter 1.
package bits

import "garner/api"

const (
	more = 0x80 // the highest digit of a byte: another one follows
	top  = 63   // the place from which on the last group of seven digits stands
	poly = 0xedb88320
)

// Uvarint is a number as bytes of seven digits.
func Uvarint(v uint64) []byte {
	var b []byte
	for v >= more {
		b = append(b, byte(v)|more)
		v >>= 7
	}
	return append(b, byte(v))
}

// ReadUvarint is the number at the beginning of bytes, and how many it has.
func ReadUvarint(b []byte) (uint64, int, api.Errno) {
	var v uint64
	for i, c := range b {
		at := 7 * i
		// Of the last group only one digit has room: no byte behind it is ever looked at.
		if at == top && c > 1 {
			return 0, 0, api.ErrForm
		}
		v |= uint64(c&^more) << at
		if c >= more {
			continue
		}
		// A last group of 0 says what a shorter row says too.
		if c == 0 && i > 0 {
			return 0, 0, api.ErrForm
		}
		return v, i + 1, api.OK
	}
	return 0, 0, api.ErrShort
}

// Zig lays numbers of both signs among those without.
func Zig(v int64) uint64 {
	// The second part is all digits 1 below 0: the shift keeps the sign.
	return uint64(v)<<1 ^ uint64(v>>63)
}

// Zag is the way back.
func Zag(u uint64) int64 {
	return int64(u>>1) ^ -int64(u&1)
}

// Put32 is four bytes, the highest first.
func Put32(v uint32) []byte {
	return []byte{byte(v >> 24), byte(v >> 16), byte(v >> 8), byte(v)}
}

// Get32 is the way back.
func Get32(b []byte) (uint32, api.Errno) {
	if len(b) < 4 {
		return 0, api.ErrShort
	}
	return uint32(b[0])<<24 | uint32(b[1])<<16 | uint32(b[2])<<8 | uint32(b[3]), api.OK
}

// Put64 is eight bytes, the highest first.
func Put64(v uint64) []byte {
	return append(Put32(uint32(v>>32)), Put32(uint32(v))...)
}

// Get64 is the way back.
func Get64(b []byte) (uint64, api.Errno) {
	if len(b) < 8 {
		return 0, api.ErrShort
	}
	var v uint64
	for _, c := range b[:8] {
		v = v<<8 | uint64(c)
	}
	return v, api.OK
}

// Sum is the CRC of bytes.
func Sum(b []byte) uint32 {
	s := ^uint32(0)
	for _, c := range b {
		s ^= uint32(c)
		for range 8 {
			// Minus the lowest digit is no digit or all of them: no branch is to be guessed.
			s = s>>1 ^ poly&-(s&1)
		}
	}
	return ^s
}

// Turn turns the digits of a number to the left.
func Turn(v uint32, n int) uint32 {
	// The lowest five digits are n modulo 32, also of an n below 0.
	left := uint(n) & 31
	return v<<left | v>>(32-left)
}

// Count is how many digits are 1.
func Count(v uint64) int {
	n := 0
	for ; v != 0; v >>= 1 {
		n += int(v & 1)
	}
	return n
}

// Pack is truths as digits of bytes.
func Pack(l []bool) []byte {
	b := make([]byte, bytesOf(len(l)))
	for i, x := range l {
		if x {
			b[i>>3] |= 1 << (i & 7)
		}
	}
	return b
}

// Unpack is the way back.
func Unpack(b []byte, n int) ([]bool, api.Errno) {
	if n < 0 {
		return nil, api.ErrArg
	}
	need := bytesOf(n)
	if len(b) < need {
		return nil, api.ErrShort
	}
	if len(b) > need || n&7 != 0 && b[need-1]>>(n&7) != 0 {
		return nil, api.ErrForm
	}
	l := make([]bool, n)
	for i := range l {
		l[i] = b[i>>3]>>(i&7)&1 == 1
	}
	return l, api.OK
}

// bytesOf is how many bytes hold n digits; n and 7 more might be too much for an int.
func bytesOf(n int) int {
	whole := n >> 3
	if n&7 != 0 {
		whole++
	}
	return whole
}
