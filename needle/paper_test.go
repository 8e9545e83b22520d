package needle_test

import (
	"bytes"
	"encoding/binary"
	"fmt"
	"hash/crc32"
	"math"
	"testing"

	"garner/api"
	"garner/needle"
)

// row is n bytes that look drawn and are the same each time; another start gives another row.
func row(n int, start uint64) []byte {
	b := make([]byte, n)
	x := start*2 + 1
	for i := range b {
		x = x*6364136223846793005 + 1442695040888963407
		b[i] = byte(x >> 56)
	}
	return b
}

// summed is bytes with their sum behind.
func summed(b []byte) []byte {
	return binary.BigEndian.AppendUint32(bytes.Clone(b), crc32.ChecksumIEEE(b))
}

// told is what stands in a head ahead of its sum, as the chapter's words have it; the length may be one that no needle has.
func told(n api.Needle, length uint32) []byte {
	b := []byte{0x6e, 0x64, 0x00, 0x00}
	if n.Dead {
		b[2] = 0x01
	}
	b = binary.BigEndian.AppendUint64(b, n.Key)
	b = binary.BigEndian.AppendUint32(b, n.Cookie)
	return binary.BigEndian.AppendUint32(b, length)
}

// padded is bytes with 0 behind them, up to a multiple of 8.
func padded(b []byte) []byte {
	for len(b)%8 != 0 {
		b = append(b, 0)
	}
	return b
}

// laid is a needle's bytes as the chapter's words have them; the needle may be one that Encode refuses.
func laid(n api.Needle) []byte {
	head := summed(told(n, uint32(len(n.Data))))
	return padded(append(head, summed(n.Data)...))
}

// lengths are how many bytes the tests' needles hold: none, one, many, the most, at each place modulo 8.
func lengths() []int {
	l := []int{255, 256, 257, 1000, 4095, 4096, 65535 - 8}
	for n := range 41 {
		l = append(l, n)
	}
	for less := range 10 {
		l = append(l, api.MaxNeedle-less)
	}
	return l
}

// keys are such as a needle may have: 0, the greatest, such as tell places apart.
func keys() []uint64 {
	return []uint64{0, 1, 255, 256, 1 << 31, 1<<32 - 1, 1 << 32, 1<<62 + 1, 1<<63 - 1, 1 << 63, math.MaxUint64 - 1, math.MaxUint64, 0x0102030405060708}
}

// cookies are such as a needle may have.
func cookies() []uint32 {
	return []uint32{0, 1, 255, 256, 1<<16 + 1, 1<<31 - 1, 1 << 31, math.MaxUint32 - 1, math.MaxUint32, 0x090a0b0c}
}

// needles are of all kinds: living and Dead, of no, one and many bytes.
func needles() []api.Needle {
	var l []api.Needle
	for i, key := range keys() {
		cookie := cookies()[i%len(cookies())]
		l = append(l, api.Needle{Key: key, Cookie: cookie, Dead: true}, api.Needle{Key: key, Cookie: cookie, Data: row(i, key)})
	}
	for i, cookie := range cookies() {
		l = append(l, api.Needle{Key: 7, Cookie: cookie, Dead: true, Data: []byte{}}, api.Needle{Key: 8, Cookie: cookie, Data: row(3*i, 5)})
	}
	return l
}

// same tells whether two needles are the same.
func same(n, m api.Needle) bool {
	return n.Key == m.Key && n.Cookie == m.Cookie && n.Dead == m.Dead && bytes.Equal(n.Data, m.Data)
}

// show is a needle in words.
func show(n api.Needle) string {
	return fmt.Sprintf("{%d, %d, dead %t, %d bytes %.20x}", n.Key, n.Cookie, n.Dead, len(n.Data), n.Data)
}

// bare is a needle without its Data.
func bare(n api.Needle) api.Needle {
	n.Data = nil
	return n
}

// isRead asks Decode for a needle, and for how many bytes it takes.
func isRead(t *testing.T, name string, b []byte, want api.Needle) {
	t.Helper()
	size := (24 + len(want.Data) + 4 + 7) / 8 * 8
	if n, took, e := needle.Decode(b); e != api.OK || took != size || !same(n, want) {
		t.Errorf("%s: %d bytes are %s of %d, error %d, not %s of %d", name, len(b), show(n), took, e, show(want), size)
	}
}

// isRefused asks Decode for an error and nothing beside it.
func isRefused(t *testing.T, name string, b []byte, want api.Errno) {
	t.Helper()
	if n, took, e := needle.Decode(b); e != want || took != 0 || !same(n, api.Needle{}) {
		t.Errorf("%s: %d bytes are %s of %d, error %d, not %d", name, len(b), show(n), took, e, want)
	}
}

// isDamaged asks Decode for ErrSum, and beside it for all of a needle but its Data, and for how many bytes it takes.
func isDamaged(t *testing.T, name string, b []byte, want api.Needle) {
	t.Helper()
	size := (24 + len(want.Data) + 4 + 7) / 8 * 8
	if n, took, e := needle.Decode(b); e != api.ErrSum || took != size || !same(n, bare(want)) {
		t.Errorf("%s: %d bytes are %s of %d, error %d, not %s of %d", name, len(b), show(n), took, e, show(bare(want)), size)
	}
}
