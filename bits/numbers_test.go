package bits_test

import (
	"bytes"
	"encoding/binary"
	"math"
	"math/big"
	"testing"

	"garner/api"
	"garner/bits"
)

// draws are numbers that look drawn and are the same each time.
type draws uint64

func (d *draws) next() uint64 {
	*d += 0x9e3779b97f4a7c15
	x := uint64(*d)
	x = (x ^ x>>30) * 0xbf58476d1ce4e5b9
	x = (x ^ x>>27) * 0x94d049bb133111eb
	return x ^ x>>31
}

func (d *draws) row(n int) []byte {
	b := make([]byte, n)
	for i := range b {
		b[i] = byte(d.next())
	}
	return b
}

// numbers are 0, the highest one, those around each power of 2, and others of each length.
func numbers() []uint64 {
	l := []uint64{0, math.MaxUint64}
	d := draws(1)
	for i := range 64 {
		p := uint64(1) << i
		l = append(l, p-1, p, p+1, ^p, p|d.next()&(p-1))
	}
	return l
}

// TestP1_1 is Uvarint: groups of seven digits, the lowest first.
func TestP1_1(t *testing.T) {
	for _, x := range []struct {
		v    uint64
		want []byte
	}{
		{0, []byte{0}},
		{1, []byte{1}},
		{127, []byte{0x7f}},
		{128, []byte{0x80, 1}},
		{300, []byte{0xac, 2}},
		{16383, []byte{0xff, 0x7f}},
		{16384, []byte{0x80, 0x80, 1}},
		{1<<63 - 1, append(bytes.Repeat([]byte{0xff}, 8), 0x7f)},
		{1 << 63, append(bytes.Repeat([]byte{0x80}, 9), 1)},
		{math.MaxUint64, append(bytes.Repeat([]byte{0xff}, 9), 1)},
	} {
		if b := bits.Uvarint(x.v); !bytes.Equal(b, x.want) {
			t.Errorf("%d: %x, not %x", x.v, b, x.want)
		}
	}
	for _, v := range numbers() {
		if b := bits.Uvarint(v); !bytes.Equal(b, binary.AppendUvarint(nil, v)) {
			t.Errorf("%d: %x", v, b)
		}
	}
}

// readByWords is what P1.2 says, word by word, with numbers that have no end.
func readByWords(b []byte) (uint64, int, api.Errno) {
	n := 0
	for n < len(b) && b[n] >= 128 {
		n++
	}
	if n >= 10 {
		return 0, 0, api.ErrForm
	}
	if n == len(b) {
		return 0, 0, api.ErrShort
	}
	v := new(big.Int)
	for i := n; i >= 0; i-- {
		v.Lsh(v, 7).Add(v, big.NewInt(int64(b[i]%128)))
	}
	if !v.IsUint64() || b[n] == 0 && n > 0 {
		return 0, 0, api.ErrForm
	}
	return v.Uint64(), n + 1, api.OK
}

func checkRead(t *testing.T, b []byte) {
	t.Helper()
	v, n, e := bits.ReadUvarint(b)
	wantV, wantN, wantE := readByWords(b)
	if v != wantV || n != wantN || e != wantE {
		t.Errorf("%x: %d %d %d, not %d %d %d", b, v, n, e, wantV, wantN, wantE)
	}
}

// TestP1_2 is ReadUvarint at rows whose answer is told here.
func TestP1_2(t *testing.T) {
	behind := func(n int, c byte, last ...byte) []byte { return append(bytes.Repeat([]byte{c}, n), last...) }
	for _, x := range []struct {
		b []byte
		v uint64
		n int
		e api.Errno
	}{
		{nil, 0, 0, api.ErrShort},
		{[]byte{}, 0, 0, api.ErrShort},
		{[]byte{0}, 0, 1, api.OK},
		{[]byte{0, 0}, 0, 1, api.OK},
		{[]byte{0x7f, 0xff}, 127, 1, api.OK},
		{[]byte{0x80}, 0, 0, api.ErrShort},
		{[]byte{0x80, 0}, 0, 0, api.ErrForm},
		{[]byte{0xff, 0x80, 0}, 0, 0, api.ErrForm},
		{[]byte{0x80, 0, 1}, 0, 0, api.ErrForm},
		{[]byte{0xac, 2}, 300, 2, api.OK},
		{[]byte{0x80, 0x80, 1, 0x80}, 16384, 3, api.OK},
		{behind(8, 0xff, 0x7f), 1<<63 - 1, 9, api.OK},
		{behind(9, 0xff), 0, 0, api.ErrShort},
		{behind(9, 0x80), 0, 0, api.ErrShort},
		{behind(9, 0xff, 1), math.MaxUint64, 10, api.OK},
		{behind(9, 0x80, 1), 1 << 63, 10, api.OK},
		{behind(9, 0xff, 1, 0), math.MaxUint64, 10, api.OK},
		{behind(9, 0x80, 0), 0, 0, api.ErrForm},
		{behind(9, 0xff, 2), 0, 0, api.ErrForm},
		{behind(9, 0x80, 2), 0, 0, api.ErrForm},
		{behind(9, 0x80, 0x7e), 0, 0, api.ErrForm},
		{behind(9, 0xff, 0x7f), 0, 0, api.ErrForm},
		{behind(10, 0xff), 0, 0, api.ErrForm},
		{behind(10, 0x80), 0, 0, api.ErrForm},
		{behind(9, 0xff, 0x81), 0, 0, api.ErrForm},
		{behind(10, 0x80, 1), 0, 0, api.ErrForm},
		{behind(40, 0x80), 0, 0, api.ErrForm},
		{behind(40, 0xff, 1), 0, 0, api.ErrForm},
	} {
		if v, n, e := bits.ReadUvarint(x.b); v != x.v || n != x.n || e != x.e {
			t.Errorf("%x: %d %d %d, not %d %d %d", x.b, v, n, e, x.v, x.n, x.e)
		}
	}
}

// TestP1_2ByWords is ReadUvarint at all rows of up to two bytes, at all tenth bytes, and at others.
func TestP1_2ByWords(t *testing.T) {
	for i := range 256 {
		checkRead(t, []byte{byte(i)})
		for j := range 256 {
			checkRead(t, []byte{byte(i), byte(j)})
		}
		for n := range 12 {
			checkRead(t, append(bytes.Repeat([]byte{0x80}, n), byte(i)))
			checkRead(t, append(bytes.Repeat([]byte{0xff}, n), byte(i), 1))
		}
	}
	d := draws(2)
	for range 20000 {
		b := d.row(int(d.next() % 14))
		for i := range b {
			// Most bytes go on, so that long rows come too.
			if d.next()%8 != 0 {
				b[i] |= 0x80
			}
		}
		checkRead(t, b)
	}
}

// TestP1_3 is Zig and Zag, at both ends of the signed numbers too.
func TestP1_3(t *testing.T) {
	for _, x := range []struct {
		v int64
		u uint64
	}{
		{0, 0}, {-1, 1}, {1, 2}, {-2, 3}, {2, 4}, {300, 600}, {-300, 599},
		{math.MaxInt32, 1<<32 - 2}, {math.MinInt32, 1<<32 - 1},
		{1 << 62, 1 << 63}, {-1 << 62, 1<<63 - 1},
		{math.MaxInt64, math.MaxUint64 - 1}, {math.MinInt64, math.MaxUint64},
		{math.MinInt64 + 1, math.MaxUint64 - 2},
	} {
		if u := bits.Zig(x.v); u != x.u {
			t.Errorf("Zig of %d: %d, not %d", x.v, u, x.u)
		}
		if v := bits.Zag(x.u); v != x.v {
			t.Errorf("Zag of %d: %d, not %d", x.u, v, x.v)
		}
	}
	for _, n := range numbers() {
		v := int64(n)
		want := new(big.Int).Mul(big.NewInt(v), big.NewInt(2))
		if v < 0 {
			want.Not(want) // that is: minus it, and 1 less
		}
		if u := bits.Zig(v); new(big.Int).SetUint64(u).Cmp(want) != 0 {
			t.Errorf("Zig of %d: %d, not %s", v, u, want)
		}
	}
}

// TestP1_4 is Put and Get, with bytes that end too early and bytes behind.
func TestP1_4(t *testing.T) {
	if b := bits.Put32(0x01020384); !bytes.Equal(b, []byte{1, 2, 3, 0x84}) {
		t.Errorf("%x", b)
	}
	if b := bits.Put64(0x8102030405060788); !bytes.Equal(b, []byte{0x81, 2, 3, 4, 5, 6, 7, 0x88}) {
		t.Errorf("%x", b)
	}
	row := []byte{0xf1, 2, 3, 4, 5, 6, 7, 8, 9}
	for n := range len(row) + 1 {
		v, e := bits.Get32(row[:n])
		if n < 4 && (v != 0 || e != api.ErrShort) || n >= 4 && (v != 0xf1020304 || e != api.OK) {
			t.Errorf("Get32 of %d bytes: %x %d", n, v, e)
		}
		w, e := bits.Get64(row[:n])
		if n < 8 && (w != 0 || e != api.ErrShort) || n >= 8 && (w != 0xf102030405060708 || e != api.OK) {
			t.Errorf("Get64 of %d bytes: %x %d", n, w, e)
		}
	}
	if _, e := bits.Get32(nil); e != api.ErrShort {
		t.Error(e)
	}
	if _, e := bits.Get64(nil); e != api.ErrShort {
		t.Error(e)
	}
	for _, v := range numbers() {
		if b := bits.Put64(v); !bytes.Equal(b, binary.BigEndian.AppendUint64(nil, v)) {
			t.Errorf("%x: %x", v, b)
		}
		if b := bits.Put32(uint32(v)); !bytes.Equal(b, binary.BigEndian.AppendUint32(nil, uint32(v))) {
			t.Errorf("%x: %x", uint32(v), b)
		}
	}
}

// TestP1_8Numbers is the ways back of numbers, with bytes behind them and with some lacking.
func TestP1_8Numbers(t *testing.T) {
	for _, v := range numbers() {
		b := bits.Uvarint(v)
		if x, n, e := bits.ReadUvarint(b); x != v || n != len(b) || e != api.OK {
			t.Errorf("%d: %d %d %d", v, x, n, e)
		}
		for _, c := range []byte{0, 1, 0x80, 0xff} {
			if x, n, e := bits.ReadUvarint(append(bytes.Clone(b), c)); x != v || n != len(b) || e != api.OK {
				t.Errorf("%d and %x: %d %d %d", v, c, x, n, e)
			}
		}
		for i := range b {
			if x, n, e := bits.ReadUvarint(b[:i]); x != 0 || n != 0 || e != api.ErrShort {
				t.Errorf("%d of %d: %d %d %d", i, v, x, n, e)
			}
		}
		if x := bits.Zig(bits.Zag(v)); x != v {
			t.Errorf("%d: %d", v, x)
		}
		if x := bits.Zag(bits.Zig(int64(v))); x != int64(v) {
			t.Errorf("%d: %d", int64(v), x)
		}
		if x, e := bits.Get64(bits.Put64(v)); x != v || e != api.OK {
			t.Errorf("%d: %d %d", v, x, e)
		}
		if x, e := bits.Get32(bits.Put32(uint32(v))); x != uint32(v) || e != api.OK {
			t.Errorf("%d: %d %d", uint32(v), x, e)
		}
	}
}
