package bits_test

import (
	"bytes"
	"hash/crc32"
	"math"
	stdbits "math/bits"
	"slices"
	"testing"

	"garner/api"
	"garner/bits"
)

// TestP1_5 is Sum, of nothing and of rows of all lengths up to a few hundred.
func TestP1_5(t *testing.T) {
	for s, want := range map[string]uint32{
		"":                 0,
		"123456789":        0xcbf43926,
		"\x00":             0xd202ef8d,
		"\x00\x00\x00\x00": 0x2144df1c,
		"\xff\xff\xff\xff": 0xffffffff,
	} {
		if v := bits.Sum([]byte(s)); v != want {
			t.Errorf("%x: %x, not %x", s, v, want)
		}
	}
	if v := bits.Sum(nil); v != 0 {
		t.Errorf("%x", v)
	}
	for i := range 256 {
		b := []byte{byte(i)}
		if v := bits.Sum(b); v != crc32.ChecksumIEEE(b) {
			t.Errorf("%x: %x", b, v)
		}
	}
	d := draws(3)
	for n := range 400 {
		b := d.row(n)
		if v := bits.Sum(b); v != crc32.ChecksumIEEE(b) {
			t.Errorf("%x: %x", b, v)
		}
	}
}

// TestP1_6Turn is Turn, by numbers below 0 and above 31 too.
func TestP1_6Turn(t *testing.T) {
	for _, x := range []struct {
		v    uint32
		n    int
		want uint32
	}{
		{0x80000001, 0, 0x80000001},
		{0x80000001, 1, 3},
		{0x80000001, 4, 0x18},
		{0x80000001, 31, 0xc0000000},
		{0x80000001, 32, 0x80000001},
		{0x80000001, 33, 3},
		{0x80000001, -1, 0xc0000000},
		{0x80000001, -31, 3},
		{0x80000001, -32, 0x80000001},
		{0x80000001, -33, 0xc0000000},
		{0x12345678, 8, 0x34567812},
		{0x12345678, -8, 0x78123456},
		{0x12345678, math.MinInt, 0x12345678},
		{0x12345678, math.MinInt + 4, 0x23456781},
		{0x12345678, math.MaxInt, 0x091a2b3c},
		{0, 5, 0},
		{math.MaxUint32, -5, math.MaxUint32},
	} {
		if v := bits.Turn(x.v, x.n); v != x.want {
			t.Errorf("%x by %d: %x, not %x", x.v, x.n, v, x.want)
		}
	}
	d := draws(4)
	for n := -130; n <= 130; n++ {
		v := uint32(d.next())
		if x := bits.Turn(v, n); x != stdbits.RotateLeft32(v, n) {
			t.Errorf("%x by %d: %x", v, n, x)
		}
	}
}

// TestP1_6Count is Count, at 0 and the highest number too.
func TestP1_6Count(t *testing.T) {
	for v, want := range map[uint64]int{0: 0, 1: 1, 5: 2, 1 << 63: 1, 1<<63 | 5: 3, math.MaxUint64: 64, math.MaxUint64 - 1: 63, 1 << 32: 1} {
		if n := bits.Count(v); n != want {
			t.Errorf("%x: %d, not %d", v, n, want)
		}
	}
	for _, v := range numbers() {
		if n := bits.Count(v); n != stdbits.OnesCount64(v) {
			t.Errorf("%x: %d", v, n)
		}
	}
}

// TestP1_7Pack is Pack: the first truth is the lowest digit, what is left over is 0.
func TestP1_7Pack(t *testing.T) {
	yes := func(n int) []bool { return slices.Repeat([]bool{true}, n) }
	for _, x := range []struct {
		l    []bool
		want []byte
	}{
		{nil, nil},
		{[]bool{}, nil},
		{[]bool{false}, []byte{0}},
		{[]bool{true}, []byte{1}},
		{[]bool{true, false, true}, []byte{5}},
		{append(make([]bool, 7), true), []byte{0x80}},
		{yes(7), []byte{0x7f}},
		{yes(8), []byte{0xff}},
		{yes(9), []byte{0xff, 1}},
		{append(make([]bool, 8), true), []byte{0, 1}},
		{make([]bool, 9), []byte{0, 0}},
		{make([]bool, 16), []byte{0, 0}},
		{append(make([]bool, 16), true), []byte{0, 0, 1}},
	} {
		if b := bits.Pack(x.l); !bytes.Equal(b, x.want) {
			t.Errorf("%v: %x, not %x", x.l, b, x.want)
		}
	}
}

// TestP1_7Unpack is Unpack, also of bytes that end too early, of a byte too many, of digits that are left over.
func TestP1_7Unpack(t *testing.T) {
	for _, x := range []struct {
		b    []byte
		n    int
		e    api.Errno
		want []bool
	}{
		{[]byte{5}, 3, api.OK, []bool{true, false, true}},
		{[]byte{0x0d}, 3, api.ErrForm, nil},
		{[]byte{0x85}, 3, api.ErrForm, nil},
		{[]byte{0x80}, 7, api.ErrForm, nil},
		{[]byte{0x80}, 8, api.OK, append(make([]bool, 7), true)},
		{[]byte{2}, 1, api.ErrForm, nil},
		{nil, 0, api.OK, nil},
		{[]byte{}, 0, api.OK, nil},
		{[]byte{0}, 0, api.ErrForm, nil},
		{[]byte{1}, 0, api.ErrForm, nil},
		{nil, 1, api.ErrShort, nil},
		{nil, 8, api.ErrShort, nil},
		{[]byte{5}, 9, api.ErrShort, nil},
		{[]byte{0xff}, 16, api.ErrShort, nil},
		{[]byte{5, 1}, 17, api.ErrShort, nil},
		{[]byte{5, 0}, 8, api.ErrForm, nil},
		{[]byte{5, 0}, 3, api.ErrForm, nil},
		{[]byte{5, 0, 0}, 16, api.ErrForm, nil},
		{[]byte{5, 2}, 9, api.ErrForm, nil},
		{[]byte{5, 1}, 9, api.OK, []bool{true, false, true, false, false, false, false, false, true}},
		{nil, -1, api.ErrArg, nil},
		{[]byte{1}, -1, api.ErrArg, nil},
		{make([]byte, 4), -8, api.ErrArg, nil},
		{[]byte{1}, math.MinInt, api.ErrArg, nil},
		{nil, math.MinInt, api.ErrArg, nil},
		{nil, math.MaxInt, api.ErrShort, nil},
		{[]byte{1}, math.MaxInt - 6, api.ErrShort, nil},
		{[]byte{1}, math.MaxInt - 7, api.ErrShort, nil},
	} {
		l, e := bits.Unpack(x.b, x.n)
		if e != x.e || !slices.Equal(l, x.want) {
			t.Errorf("%x, %d: %v %d, not %v %d", x.b, x.n, l, e, x.want, x.e)
		}
	}
}

// TestP1_7LeftOver is Unpack of one byte, each of them, by each number of digits.
func TestP1_7LeftOver(t *testing.T) {
	for c := range 256 {
		for n := 1; n <= 8; n++ {
			l, e := bits.Unpack([]byte{byte(c)}, n)
			if c>>n != 0 {
				if e != api.ErrForm || len(l) != 0 {
					t.Errorf("%x, %d: %v %d", c, n, l, e)
				}
				continue
			}
			if e != api.OK || len(l) != n {
				t.Errorf("%x, %d: %v %d", c, n, l, e)
			}
			for i, x := range l {
				if x != (c>>i%2 == 1) {
					t.Errorf("%x, %d: %v", c, n, l)
				}
			}
		}
	}
}

// TestP1_8Pack is the way there and back of truths, and of the bytes that hold them.
func TestP1_8Pack(t *testing.T) {
	d := draws(5)
	for n := range 200 {
		l := make([]bool, n)
		for i := range l {
			l[i] = d.next()%2 == 0
		}
		b := bits.Pack(l)
		if x, e := bits.Unpack(b, n); e != api.OK || !slices.Equal(x, l) {
			t.Errorf("%v: %v %d", l, x, e)
		}
		if x, e := bits.Unpack(append(bytes.Clone(b), 0), n); e != api.ErrForm || len(x) != 0 {
			t.Errorf("%v, a byte more: %v %d", l, x, e)
		}
		if n == 0 {
			continue
		}
		if x, e := bits.Unpack(b[:len(b)-1], n); e != api.ErrShort || len(x) != 0 {
			t.Errorf("%v, a byte less: %v %d", l, x, e)
		}
		whole := d.row(n)
		x, e := bits.Unpack(whole, 8*n)
		if e != api.OK || !bytes.Equal(bits.Pack(x), whole) {
			t.Errorf("%x: %v %d", whole, x, e)
		}
	}
}

// TestP1_8Sum is the sum of rows in which one byte is another one.
func TestP1_8Sum(t *testing.T) {
	d := draws(6)
	for _, n := range []int{1, 2, 3, 4, 5, 9, 40} {
		b := d.row(n)
		sum := bits.Sum(b)
		for i := range b {
			for by := 1; by < 256; by++ {
				b[i] ^= byte(by)
				if bits.Sum(b) == sum {
					t.Errorf("%x has the sum of another row", b)
				}
				b[i] ^= byte(by)
			}
		}
	}
}

// TestP1_8Turn is Turn there and back.
func TestP1_8Turn(t *testing.T) {
	d := draws(7)
	turns := []int{0, 1, 31, 32, 33, 64, 1000, math.MaxInt, math.MinInt + 1, math.MinInt}
	for range 200 {
		turns = append(turns, int(d.next()))
	}
	for _, n := range turns {
		v := uint32(d.next())
		if x := bits.Turn(bits.Turn(v, n), -n); x != v {
			t.Errorf("%x by %d and back: %x", v, n, x)
		}
	}
}
