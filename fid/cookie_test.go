package fid_test

import (
	"math"
	"math/bits"
	"slices"
	"testing"

	"garner/fid"
)

// TestP15_3Paper is some cookies, worked out by hand: what x is ahead of the four times, and behind each of them.
func TestP15_3Paper(t *testing.T) {
	for _, c := range []struct {
		volume int
		key    uint64
		salt   uint32
		x      [5]uint32
	}{
		{0, 0, 0, [5]uint32{0, 0, 0, 0, 0}},
		{1, 1, 0, [5]uint32{1, 0x6526b0d9, 0x50056ecc, 0x921a6eba, 0x4ca45c42}},
		{3, 255, 1, [5]uint32{2, 0x0b63d107, 0x0c231b99, 0xc75fcbd9, 0x7b8f8378}},
		{12345678, 0xffff, 0xdeadbeef, [5]uint32{0xde11dfa1, 0xc45724a4, 0x261339d8, 0x6d5a89e4, 0x3b9e66e5}},
		{7, 0x0123456789abcdef, 0x89abcdef, [5]uint32{0x89abcde8, 0xf60db58e, 0x3604198d, 0xf79a9879, 0x06ebe7f5}},
		{99999999, math.MaxUint64, math.MaxUint32, [5]uint32{0xfa0a1f00, 0xda23e8e0, 0x0d4973c4, 0xa687780e, 0x91ce0013}},
		{1 << 32, 1 << 63, 0, [5]uint32{0, 0, 0, 0x80000000, 0xa0541b90}},
		{-1, 1 << 48, 5, [5]uint32{0xfffffffa, 0x7f1c72a7, 0x795957b7, 0x89d569b7, 0x33b42370}},
		{-2, 1 << 32, 0, [5]uint32{0xfffffffe, 0x9ad94f27, 0x5ef94e9b, 0xe1ece19a, 0x2aeb997c}},
	} {
		isCookie(t, c.volume, c.key, c.salt, c.x[4])
		if x := onPaperCookie(c.volume, c.key, c.salt); x != c.x {
			t.Errorf("%d, %#x, %#x: on paper it goes %x, not %x", c.volume, c.key, c.salt, x, c.x)
		}
	}
}

// cookieVolumes are volumes of all kinds: such as a file id has, none, below 0, such as differ above the lowest 32 digits.
func cookieVolumes() []int {
	return slices.Concat(volumes(), wrongVolumes(), []int{3 << 32, -3 << 32, 1 << 48, 1<<48 + 1, 1<<63 - 1<<32, 0x7fffffff12345678})
}

// cookieKeys are keys of all kinds: 0, such as a file id has, such as differ in one digit.
func cookieKeys() []uint64 {
	l := append(keys(), 0)
	for n := range 64 {
		l = append(l, 1<<n, ^uint64(1<<n))
	}
	return l
}

// TestP15_3 is the cookies of each volume, key and salt of the lists.
func TestP15_3(t *testing.T) {
	for _, v := range cookieVolumes() {
		for i, k := range cookieKeys() {
			for j, s := range cookies() {
				if (i+j)%3 == 0 || s == 0 || s == math.MaxUint32 {
					isCookie(t, v, k, s, onPaperCookie(v, k, s)[4])
				}
			}
		}
	}
}

// TestP15_3Drawn is cookies of drawn numbers.
func TestP15_3Drawn(t *testing.T) {
	d := draws(5)
	for range 50000 {
		v, k, s := int(d.next()), d.next()>>d.below(64), uint32(d.next())
		isCookie(t, v, k, s, onPaperCookie(v, k, s)[4])
		f := d.fid()
		isCookie(t, f.Volume, f.Key, s, onPaperCookie(f.Volume, f.Key, s)[4])
	}
}

// TestP15_3Volume is volumes of which the lowest 32 digits are the same, and such as are salt instead.
func TestP15_3Volume(t *testing.T) {
	for _, k := range cookieKeys() {
		for _, s := range cookies() {
			for _, v := range []int{0, 1, 7, 99999999, 1 << 31, 1<<32 - 1} {
				want := onPaperCookie(v, k, s)[4]
				for _, high := range []int{1, 2, 3, 1 << 16, 1<<31 - 1, -1, -2, -1 << 31} {
					isCookie(t, v+high<<32, k, s, want)
				}
				isCookie(t, 0, k, s^uint32(v), want)
			}
			isCookie(t, -1, k, s, fid.Cookie(0, k, ^s))
			isCookie(t, math.MinInt, k, s, fid.Cookie(0, k, s))
			isCookie(t, math.MaxInt, k, s, fid.Cookie(0, k, ^s))
		}
	}
}

// TestP15_3Back is the equation the other way round: from a cookie and its key four times back to what it began with.
func TestP15_3Back(t *testing.T) {
	// The number of which factor times it is 1 and nothing else in the lowest 32 digits.
	inverse := uint32(2654435769)
	for range 5 {
		inverse *= 2 - 2654435769*inverse
	}
	d := draws(6)
	for range 20000 {
		v, k, s := int(d.next()), d.next()>>d.below(64), uint32(d.next())
		x := fid.Cookie(v, k, s)
		for _, at := range []int{48, 32, 16, 0} {
			x = bits.RotateLeft32(x*inverse^uint32(k>>at), -5)
		}
		if x != s^uint32(v) {
			t.Errorf("Cookie(%d, %#x, %#x) leads back to %08x, not to %08x", v, k, s, x, s^uint32(v))
		}
	}
}

// TestP15_3Apart is cookies of keys that differ in their upper digits alone, and of salts: they are not all the same, and those of two salts never.
func TestP15_3Apart(t *testing.T) {
	for _, low := range []uint64{0, 1, 0xffff, 1<<32 - 1, 1<<48 - 1} {
		seen := map[uint32]bool{}
		for high := range uint64(256) {
			k := high<<48 | low
			isCookie(t, 7, k, 9, onPaperCookie(7, k, 9)[4])
			seen[fid.Cookie(7, k, 9)] = true
		}
		if len(seen) < 250 {
			t.Errorf("256 keys over %#x have %d cookies", low, len(seen))
		}
	}
	for _, k := range cookieKeys() {
		seen := map[uint32]uint32{}
		for _, s := range cookies() {
			x := fid.Cookie(7, k, s)
			if other, ok := seen[x]; ok {
				t.Errorf("the key %#x has the cookie %08x of the salts %#x and %#x", k, x, s, other)
			}
			seen[x] = s
		}
	}
}
