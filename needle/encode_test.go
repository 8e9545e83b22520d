package needle_test

import (
	"bytes"
	"encoding/hex"
	"math"
	"strings"
	"testing"

	"garner/api"
	"garner/needle"
)

// TestP11_1Bytes is Encode of some needles, byte by byte, worked out by hand.
func TestP11_1Bytes(t *testing.T) {
	for _, x := range []struct {
		n    api.Needle
		want string
	}{
		{api.Needle{}, "6e64 00 00 0000000000000000 00000000 00000000 bbcdb729 00000000 00000000"},
		{api.Needle{Data: []byte{}}, "6e64 00 00 0000000000000000 00000000 00000000 bbcdb729 00000000 00000000"},
		{api.Needle{Key: 1, Cookie: 5, Data: []byte("ab")}, "6e64 00 00 0000000000000001 00000005 00000002 8a584d36 6162 9e83486d 0000"},
		{api.Needle{Key: 1, Cookie: 5, Dead: true}, "6e64 01 00 0000000000000001 00000005 00000000 8b049afb 00000000 00000000"},
		{api.Needle{Key: 0x0102030405060708, Cookie: 0x090a0b0c, Data: []byte("garn")}, "6e64 00 00 0102030405060708 090a0b0c 00000004 3b8c41e8 6761726e 79a3e69a"},
		{api.Needle{Key: math.MaxUint64, Cookie: math.MaxUint32, Data: []byte{255, 255, 255, 255, 255}}, "6e64 00 00 ffffffffffffffff ffffffff 00000005 c614ee0a ffffffffff d2fd1072 00000000000000"},
	} {
		want, e := hex.DecodeString(strings.ReplaceAll(x.want, " ", ""))
		if e != nil {
			t.Fatal(e)
		}
		if b, e := needle.Encode(x.n); e != api.OK || !bytes.Equal(b, want) {
			t.Errorf("%s: %x, error %d, not %x", show(x.n), b, e, want)
		}
	}
}

// isLaid asks Encode for a needle's bytes, each of them as the chapter's words have it.
func isLaid(t *testing.T, n api.Needle) {
	t.Helper()
	b, e := needle.Encode(n)
	want := laid(n)
	if e != api.OK || len(b) != len(want) {
		t.Fatalf("%s: %d bytes, error %d, not %d", show(n), len(b), e, len(want))
	}
	for i := range b {
		if b[i] != want[i] {
			t.Errorf("%s: the byte %d is %02x, not %02x", show(n), i, b[i], want[i])
		}
	}
	if size := needle.Size(len(n.Data)); size != len(b) {
		t.Errorf("%s: Size is %d of %d", show(n), size, len(b))
	}
}

// TestP11_1 is Encode of needles of no, one and many bytes, living and Dead, with all keys and cookies, place by place.
func TestP11_1(t *testing.T) {
	for _, n := range needles() {
		isLaid(t, n)
	}
	for _, length := range lengths() {
		isLaid(t, api.Needle{Key: uint64(length) << 20, Cookie: uint32(length) + 1, Data: row(length, 1)})
	}
	for _, key := range keys() {
		for _, cookie := range cookies() {
			isLaid(t, api.Needle{Key: key, Cookie: cookie, Dead: true})
			isLaid(t, api.Needle{Key: key, Cookie: cookie, Data: []byte{0xab}})
		}
	}
}

// isNotLaid asks Encode for an error and nothing beside it.
func isNotLaid(t *testing.T, name string, n api.Needle, want api.Errno) {
	t.Helper()
	if b, e := needle.Encode(n); e != want || len(b) != 0 {
		t.Errorf("%s: %d bytes, error %d, not %d", name, len(b), e, want)
	}
}

// TestP11_1Dead is Encode of Dead needles that have Data, also too much of it: that it is Dead is named first.
func TestP11_1Dead(t *testing.T) {
	for _, length := range []int{1, 2, 3, 4, 5, 8, 1000, api.MaxNeedle - 1, api.MaxNeedle, api.MaxNeedle + 1, 2 * api.MaxNeedle, 1 << 20} {
		isNotLaid(t, "Dead with Data", api.Needle{Key: 1, Cookie: 2, Dead: true, Data: make([]byte, length)}, api.ErrArg)
		isNotLaid(t, "Dead with Data, all else 0", api.Needle{Dead: true, Data: row(length, 3)}, api.ErrArg)
	}
	// The room behind the end is no Data.
	isLaid(t, api.Needle{Key: 1, Dead: true, Data: make([]byte, 0, 100)})
}

// TestP11_1Long is Encode of more Data than a needle may have.
func TestP11_1Long(t *testing.T) {
	for _, over := range []int{1, 2, 7, 8, 9, api.MaxNeedle, 1 << 20} {
		isNotLaid(t, "too much Data", api.Needle{Key: 1, Cookie: 2, Data: make([]byte, api.MaxNeedle+over)}, api.ErrLong)
	}
	isLaid(t, api.Needle{Key: 1, Cookie: 2, Data: make([]byte, 2, 2*api.MaxNeedle)})
	isLaid(t, api.Needle{Key: 1, Cookie: 2, Data: make([]byte, api.MaxNeedle, 2*api.MaxNeedle)})
}

// TestP11_1Size is how many bytes needles take: the examples, each length that there is, and such as count as another one.
func TestP11_1Size(t *testing.T) {
	for n, want := range map[int]int{
		0: 32, 1: 32, 3: 32, 4: 32, 5: 40, 11: 40, 12: 40, 13: 48,
		-1: 32, -2: 32, -7: 32, -8: 32, -28: 32, -29: 32, -1000: 32, -1 << 31: 32, -1<<31 - 1: 32, math.MinInt: 32, math.MinInt + 1: 32, math.MinInt + 7: 32,
		api.MaxNeedle - 4: 65560, api.MaxNeedle - 3: 65568, api.MaxNeedle - 1: 65568, api.MaxNeedle: 65568,
		api.MaxNeedle + 1: 65568, api.MaxNeedle + 4: 65568, api.MaxNeedle + 5: 65568, 2 * api.MaxNeedle: 65568,
		1<<31 - 1: 65568, 1 << 31: 65568, 1 << 32: 65568, 1<<32 + 5: 65568, math.MaxInt - 35: 65568, math.MaxInt - 7: 65568, math.MaxInt - 1: 65568, math.MaxInt: 65568,
	} {
		if size := needle.Size(n); size != want {
			t.Errorf("Size(%d) is %d, not %d", n, size, want)
		}
	}
	for n := range api.MaxNeedle + 1 {
		size := 24 + n + 4
		for size%8 != 0 {
			size++
		}
		if s := needle.Size(n); s != size {
			t.Errorf("Size(%d) is %d, not %d", n, s, size)
		}
	}
}
