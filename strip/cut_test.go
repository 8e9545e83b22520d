package strip_test

import (
	"bytes"
	"math"
	"slices"
	"testing"

	"garner/api"
	"garner/strip"
)

// TestP14_1Example is the chapter's own: 40 bytes, 2, 1.
func TestP14_1Example(t *testing.T) {
	x := drawn(1)
	b := x.row(40)
	one := slices.Concat(b[:16], b[32:], make([]byte, 8))
	two := slices.Concat(b[16:32], make([]byte, 16))
	sums := make([]byte, 32)
	for i := range sums {
		sums[i] = product(142, one[i]) ^ product(244, two[i])
	}
	isCut(t, b, pair{2, 1}, [][]byte{one, two, sums}, api.OK)
}

// TestP14_1Hand is wholes that were cut by hand.
func TestP14_1Hand(t *testing.T) {
	block := func(x byte) []byte { return bytes.Repeat([]byte{x}, 16) }
	isCut(t, []byte{7}, pair{1, 0}, [][]byte{append([]byte{7}, make([]byte, 15)...)}, api.OK)
	isCut(t, block(7), pair{1, 0}, [][]byte{block(7)}, api.OK)
	isCut(t, block(7), pair{1, 1}, [][]byte{block(7), block(7)}, api.OK)
	isCut(t, block(1), pair{1, 2}, [][]byte{block(1), block(1), block(142)}, api.OK)
	isCut(t, block(7), pair{3, 0}, [][]byte{block(7), block(0), block(0)}, api.OK)
	isCut(t, slices.Concat(block(1), block(2)), pair{2, 2}, [][]byte{block(1), block(2), block(123), block(245)}, api.OK)
	three := slices.Concat(block(1), block(2), block(3))
	isCut(t, three, pair{2, 0}, [][]byte{slices.Concat(block(1), block(3)), slices.Concat(block(2), block(0))}, api.OK)
	isCut(t, three, pair{1, 0}, [][]byte{three}, api.OK)
	isCut(t, append(three, 9), pair{3, 0}, [][]byte{slices.Concat(block(1), []byte{9}, make([]byte, 15)), slices.Concat(block(2), block(0)), slices.Concat(block(3), block(0))}, api.OK)
}

// TestP14_1 is wholes of all sizes around blocks and rows, for every k and m.
func TestP14_1(t *testing.T) {
	x := drawn(2)
	for _, p := range pairs() {
		for _, size := range p.sizes() {
			b := x.row(size)
			isCut(t, b, p, paperCut(b, p), api.OK)
			isCut(t, make([]byte, size), p, paperCut(make([]byte, size), p), api.OK)
		}
	}
}

// TestP14_1Small is wholes of each size up to some rows.
func TestP14_1Small(t *testing.T) {
	x := drawn(3)
	for _, p := range []pair{{1, 0}, {1, 1}, {2, 1}, {3, 2}, {4, 3}} {
		for size := 1; size <= 5*p.k*16+1; size++ {
			b := x.row(size)
			isCut(t, b, p, paperCut(b, p), api.OK)
		}
	}
}

// TestP14_1Great is wholes near MaxVolume, and of just as many bytes.
func TestP14_1Great(t *testing.T) {
	x := drawn(4)
	b := x.row(api.MaxVolume)
	for _, p := range []pair{{1, 0}, {2, 1}, {10, 4}, {14, 0}, {13, 1}} {
		for _, less := range []int{0, 1, 15, 16, 17} {
			part := b[:api.MaxVolume-less]
			isCut(t, part, p, paperCut(part, p), api.OK)
		}
	}
}

// TestP14_1Byte asks whether a byte of the whole has a say at just one place of its own shard and of those of sums.
func TestP14_1Byte(t *testing.T) {
	x := drawn(5)
	p := pair{3, 2}
	b := x.row(3*3*16 - 5)
	was, _ := strip.Cut(b, p.k, p.m)
	for at := range b {
		b[at] ^= 0x81
		now, e := strip.Cut(b, p.k, p.m)
		if e != api.OK || len(now) != len(was) {
			t.Fatalf("%d shards, %d", len(now), e)
		}
		for i := range now {
			for j := range now[i] {
				changed := now[i][j] != was[i][j]
				if want := j == at/16/p.k*16+at%16 && (i >= p.k || i == at/16%p.k); changed != want {
					t.Fatalf("byte %d of the whole, byte %d of the shard %d: changed %t, not %t", at, j, i, changed, want)
				}
			}
		}
		b[at] ^= 0x81
	}
}

// TestP14_1Refused is what Code refuses, with wholes of all sizes: that is named ahead of one that is too long.
func TestP14_1Refused(t *testing.T) {
	for _, p := range refused() {
		for _, n := range []int{0, 1, 16, 40, 224, 225} {
			isCut(t, make([]byte, n), p, nil, api.ErrArg)
		}
		isCut(t, nil, p, nil, api.ErrArg)
	}
	long := make([]byte, api.MaxVolume+1)
	for _, p := range []pair{{0, 0}, {0, 1}, {1, -1}, {15, 0}, {14, 1}, {math.MaxInt, 1}, {1, math.MinInt}, {math.MaxInt, math.MaxInt}} {
		isCut(t, long, p, nil, api.ErrArg)
	}
}

// TestP14_1Empty is wholes without a byte.
func TestP14_1Empty(t *testing.T) {
	for _, p := range pairs() {
		for _, b := range [][]byte{nil, {}, []byte{1, 2, 3}[:0]} {
			isCut(t, b, p, nil, api.ErrArg)
		}
	}
}

// TestP14_1Long is wholes of more than MaxVolume bytes.
func TestP14_1Long(t *testing.T) {
	long := make([]byte, 2*api.MaxVolume)
	for _, p := range pairs() {
		for _, more := range []int{1, 2, 15, 16, 224, api.MaxVolume} {
			isCut(t, long[:api.MaxVolume+more], p, nil, api.ErrLong)
		}
	}
}
