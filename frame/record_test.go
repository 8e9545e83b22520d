package frame_test

import (
	"bytes"
	"encoding/binary"
	"hash/crc32"
	"math"
	"testing"

	"garner/api"
	"garner/frame"
)

// row is n bytes that look drawn and are the same each time; another start gives another row.
func row(n int, start uint64) []byte {
	b := make([]byte, n)
	x := start
	for i := range b {
		x = x*6364136223846793005 + 1442695040888963407
		b[i] = byte(x >> 56)
	}
	return b
}

// told is a record's first eight bytes, whatever they tell.
func told(length, sum uint32) []byte {
	return binary.BigEndian.AppendUint32(binary.BigEndian.AppendUint32(nil, length), sum)
}

// rightSum is the sum that belongs to a length that is told and the bytes behind.
func rightSum(length uint32, p []byte) uint32 {
	return crc32.ChecksumIEEE(append(binary.BigEndian.AppendUint32(nil, length), p...))
}

// record is a record as the chapter's words have it; its length may be one that Encode refuses.
func record(p []byte) []byte {
	n := uint32(len(p))
	return append(told(n, rightSum(n, p)), p...)
}

// lengths are how many bytes the tests' records hold: none, one, many, the most.
var lengths = []int{0, 1, 2, 3, 4, 5, 7, 8, 9, 100, 255, 256, 257, 65535, 65536, 65537, api.MaxFrame - 1, api.MaxFrame}

// isRefused asks for an error and nothing beside it.
func isRefused(t *testing.T, name string, b []byte, want api.Errno) {
	t.Helper()
	p, n, e := frame.Decode(b)
	if len(p) != 0 || n != 0 || e != want {
		t.Errorf("%s: %d bytes of %d, error %d, not %d", name, len(p), n, e, want)
	}
}

// isRead asks for a record's bytes, and for how many it takes.
func isRead(t *testing.T, name string, b, want []byte) {
	t.Helper()
	p, n, e := frame.Decode(b)
	if !bytes.Equal(p, want) || n != 8+len(want) || e != api.OK {
		t.Errorf("%s: %d bytes of %d, error %d, not the %d", name, len(p), n, e, len(want))
	}
}

// TestP2_1 is Encode of records of no bytes, of one, of many, of the most.
func TestP2_1(t *testing.T) {
	for _, x := range []struct {
		p, want []byte
	}{
		{nil, []byte{0, 0, 0, 0, 0x21, 0x44, 0xdf, 0x1c}},
		{[]byte{}, []byte{0, 0, 0, 0, 0x21, 0x44, 0xdf, 0x1c}},
		{[]byte{0xab}, []byte{0, 0, 0, 1, 0x9e, 0x3d, 0xbc, 0x3c, 0xab}},
		{[]byte("garner"), []byte{0, 0, 0, 6, 0x14, 0x07, 0x3d, 0x9c, 'g', 'a', 'r', 'n', 'e', 'r'}},
	} {
		if b, e := frame.Encode(x.p); e != api.OK || !bytes.Equal(b, x.want) {
			t.Errorf("%x: %x %d, not %x", x.p, b, e, x.want)
		}
	}
	for _, n := range lengths {
		p := row(n, 1)
		if b, e := frame.Encode(p); e != api.OK || !bytes.Equal(b, record(p)) {
			t.Errorf("%d bytes: %d, error %d", n, len(b), e)
		}
	}
}

// TestP2_1Long is Encode of more bytes than a record may have.
func TestP2_1Long(t *testing.T) {
	for _, n := range []int{api.MaxFrame + 1, api.MaxFrame + 2, 2 * api.MaxFrame, 1 << 24} {
		if b, e := frame.Encode(make([]byte, n)); e != api.ErrLong || len(b) != 0 {
			t.Errorf("%d bytes: %d, error %d", n, len(b), e)
		}
	}
	// The room behind the end does not count.
	if b, e := frame.Encode(make([]byte, 2, 2*api.MaxFrame)); e != api.OK || len(b) != 10 {
		t.Errorf("room behind: %x %d", b, e)
	}
}

// TestP2_2 is Decode of records of no bytes, of one, of many, of the most.
func TestP2_2(t *testing.T) {
	isRead(t, "the example", []byte{0, 0, 0, 0, 0x21, 0x44, 0xdf, 0x1c, 0xab}, nil)
	isRead(t, "a word", []byte{0, 0, 0, 6, 0x14, 0x07, 0x3d, 0x9c, 'g', 'a', 'r', 'n', 'e', 'r'}, []byte("garner"))
	for _, n := range lengths {
		p := row(n, 2)
		isRead(t, "a record", record(p), p)
	}
}

// TestP2_2Short is Decode of records with a torn end: seven bytes and eight, and all ends of a small one.
func TestP2_2Short(t *testing.T) {
	isRefused(t, "nil", nil, api.ErrShort)
	isRefused(t, "no bytes", []byte{}, api.ErrShort)
	empty := record(nil)
	isRefused(t, "seven bytes", empty[:7], api.ErrShort)
	isRead(t, "eight bytes", empty, nil)
	whole := record(row(40, 3))
	for n := range whole {
		// The room behind holds the rest, and has no say.
		isRefused(t, "a torn record", whole[:n], api.ErrShort)
		isRefused(t, "a torn record alone", bytes.Clone(whole[:n]), api.ErrShort)
	}
	most := record(row(api.MaxFrame, 4))
	isRefused(t, "the longest, a byte less", most[:len(most)-1], api.ErrShort)
	isRefused(t, "the longest, its head alone", most[:8], api.ErrShort)
}

// TestP2_2Long is Decode of lengths that no record has, also with as many bytes behind and the right sum.
func TestP2_2Long(t *testing.T) {
	for _, n := range []uint32{api.MaxFrame + 1, api.MaxFrame + 2, 2 * api.MaxFrame, 1 << 24, 1<<31 - 1, 1 << 31, 1<<31 + 1, 1<<31 + 8, 1<<32 - 9, 1<<32 - 8, 1<<32 - 7, 1<<32 - 1} {
		isRefused(t, "a length that is too great", told(n, 0), api.ErrLong)
		isRefused(t, "a length that is too great, its sum right", told(n, rightSum(n, nil)), api.ErrLong)
		isRefused(t, "a length that is too great, bytes behind", append(told(n, 0), row(100, 5)...), api.ErrLong)
	}
	for _, n := range []int{api.MaxFrame + 1, 2 * api.MaxFrame} {
		isRefused(t, "a record that is too long", record(row(n, 6)), api.ErrLong)
	}
}

// TestP2_2Sum is Decode of sums that are not right, also such as stand for other bytes than they should.
func TestP2_2Sum(t *testing.T) {
	p := row(20, 7)
	n := uint32(len(p))
	right := rightSum(n, p)
	for name, sum := range map[string]uint32{
		"0":                0,
		"all digits":       math.MaxUint32,
		"one more":         right + 1,
		"the bytes alone":  crc32.ChecksumIEEE(p),
		"the length alone": rightSum(n, nil),
		"one byte less":    rightSum(n, p[:19]),
	} {
		isRefused(t, "the sum of "+name, append(told(n, sum), p...), api.ErrSum)
	}
	isRead(t, "the right sum", append(told(n, right), p...), p)
	isRefused(t, "no bytes and no sum", make([]byte, 8), api.ErrSum)
	isRefused(t, "a length that is less", append(told(n-1, right), p...), api.ErrSum)
}

// TestP2_2Order is Decode where several errors apply: the one that is named first is told.
func TestP2_2Order(t *testing.T) {
	isRefused(t, "less than eight bytes that tell too much", bytes.Repeat([]byte{0xff}, 7), api.ErrShort)
	isRefused(t, "four bytes that tell too much", bytes.Repeat([]byte{0xff}, 4), api.ErrShort)
	isRefused(t, "eight bytes that tell too much", bytes.Repeat([]byte{0xff}, 8), api.ErrLong)
	isRefused(t, "too much, and a wrong sum", record(make([]byte, api.MaxFrame+1))[:20], api.ErrLong)
	isRefused(t, "one byte that lacks, and a wrong sum", told(1, 0), api.ErrShort)
	isRefused(t, "the most bytes, which lack", told(api.MaxFrame, 0), api.ErrShort)
	wrong := record(row(30, 8))
	wrong[6] ^= 1
	isRefused(t, "a torn end, and a wrong sum", wrong[:len(wrong)-1], api.ErrShort)
	isRefused(t, "a wrong sum alone", wrong, api.ErrSum)
}

// TestP2_4 is Decode of what Encode makes, with anything behind it.
func TestP2_4(t *testing.T) {
	for _, n := range lengths {
		p := row(n, 9)
		b, e := frame.Encode(p)
		if e != api.OK {
			t.Fatal(n, e)
		}
		for _, behind := range [][]byte{nil, {0}, {0xab}, {0xff, 0xff, 0xff, 0xff}, row(7, 10), row(30, 11), b} {
			isRead(t, "a record with something behind", append(bytes.Clone(b), behind...), p)
		}
	}
}

// TestP2_4Changed is Decode of records with one byte changed behind their first four, each byte to each other one.
func TestP2_4Changed(t *testing.T) {
	for _, n := range []int{0, 1, 2, 5, 64} {
		p := row(n, 12)
		b, _ := frame.Encode(p)
		end := len(b)
		b = append(b, record(p)...)
		for i := 4; i < end; i++ {
			for by := 1; by < 256; by++ {
				b[i] ^= byte(by)
				isRefused(t, "a changed byte", b[:end], api.ErrSum)
				isRefused(t, "a changed byte, a record behind", b, api.ErrSum)
				b[i] ^= byte(by)
			}
		}
	}
	b, _ := frame.Encode(row(api.MaxFrame, 13))
	for _, i := range []int{4, 7, 8, 9, api.MaxFrame / 2, len(b) - 1} {
		b[i] ^= 0x40
		isRefused(t, "a changed byte of the longest", b, api.ErrSum)
		b[i] ^= 0x40
	}
}

// TestW1Decode is Decode of bytes of all kinds: it takes what the chapter's words make, and nothing else.
func TestW1Decode(t *testing.T) {
	for i := range uint64(4000) {
		b := row(int(i%60), i)
		if len(b) > 3 && i%2 == 0 {
			// A length that may be there.
			copy(b, []byte{0, 0, 0, b[3] % 64})
		}
		p, n, e := frame.Decode(b)
		if e == api.OK && (n > len(b) || !bytes.Equal(b[:n], record(p))) {
			t.Errorf("%x: %x %d", b, p, n)
		}
		if e != api.OK && (len(p) != 0 || n != 0) {
			t.Errorf("%x: %x %d beside the error %d", b, p, n, e)
		}
	}
}
