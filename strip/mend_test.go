package strip_test

import (
	"bytes"
	"slices"
	"testing"

	"garner/api"
	"garner/strip"
)

// isWhole asks Mend for all that Cut made.
func (w *whole) isWhole(t *testing.T, shards [][][]byte) {
	t.Helper()
	isMend(t, shards, w.pair, len(w.b), w.shards, api.OK)
}

// TestP14_4Hand is shards that were mended by hand.
func TestP14_4Hand(t *testing.T) {
	block := func(x byte) []byte { return bytes.Repeat([]byte{x}, 16) }
	all := [][]byte{block(1), block(2), block(123), block(245)}
	p := pair{2, 2}
	for _, lost := range [][]int{nil, {0}, {1}, {2}, {3}, {0, 1}, {0, 2}, {0, 3}, {1, 2}, {1, 3}, {2, 3}} {
		shards := rowsOf(all)
		for _, i := range lost {
			shards[i] = nil
		}
		isMend(t, shards, p, 32, all, api.OK)
		isMend(t, shards, p, 1, all, api.OK)
	}
	isMend(t, [][][]byte{{block(7)}}, pair{1, 0}, 16, [][]byte{block(7)}, api.OK)
	isMend(t, [][][]byte{nil, {block(7)}}, pair{1, 1}, 3, [][]byte{block(7), block(7)}, api.OK)
	// More than k are there, and they do not fit: the first k of each row stay, the others are made to fit them.
	isMend(t, [][][]byte{{block(1)}, {block(2)}, {block(9)}, {block(9)}}, p, 32, all, api.OK)
	isMend(t, [][][]byte{{block(1)}, nil, {block(123)}, {block(9)}}, p, 32, all, api.OK)
	isMend(t, [][][]byte{{block(7)}, {block(9)}}, pair{1, 1}, 16, [][]byte{block(7), block(7)}, api.OK)
	// Each row for itself: other shards are lost in each.
	isMend(t, [][][]byte{{block(1), nil, block(9), nil}, {nil, block(7), nil, block(9)}}, pair{1, 1}, 64,
		slices.Repeat([][]byte{slices.Concat(block(1), block(7), block(9), block(9))}, 2), api.OK)
}

// TestP14_6Mend is each set of shards that is lost, up to m, for every k and m, and for some one by one as rows.
func TestP14_6Mend(t *testing.T) {
	x := drawn(61)
	for _, p := range pairs() {
		w := x.whole(p, 1+x.below(p.k*16*2))
		for some := range p.m + 1 {
			l := sets(p.k+p.m, some)
			for n := range min(len(l), 40) {
				lost := l[n]
				if len(l) > 40 {
					lost = l[x.below(len(l))]
				}
				w.isWhole(t, w.without(lost))
			}
		}
	}
	for _, p := range []pair{{1, 3}, {2, 2}, {3, 2}, {4, 3}, {5, 1}, {6, 4}} {
		w := x.whole(p, p.k*16*2-3)
		for some := range p.m + 1 {
			for _, lost := range sets(p.k+p.m, some) {
				w.isWhole(t, w.without(lost))
			}
		}
	}
}

// TestP14_6MendRows is in each row any m rows lost, or fewer, for all sizes around blocks and rows.
func TestP14_6MendRows(t *testing.T) {
	x := drawn(62)
	for _, p := range pairs() {
		for _, size := range append(p.sizes(), 1000) {
			w := x.whole(p, size)
			w.isWhole(t, w.torn(&x, p.m))
			w.isWhole(t, w.torn(&x, x.below(p.m+1)))
		}
	}
}

// TestP14_6MendCut is Mend of what Cut itself made, and again of what Mend made, with others lost each time.
func TestP14_6MendCut(t *testing.T) {
	x := drawn(63)
	for _, p := range pairs() {
		size := 1 + x.below(p.k*16*4)
		b := x.row(size)
		all, e := strip.Cut(b, p.k, p.m)
		if e != api.OK {
			t.Fatalf("Cut of %d bytes, %d, %d: %d", size, p.k, p.m, e)
		}
		want := slices.Clone(all)
		for range 5 {
			w := &whole{p, b, all}
			all, e = strip.Mend(w.torn(&x, p.m), p.k, p.m, size)
			if e != api.OK || !same(all, want) {
				t.Fatalf("%d, %d, size %d: %x, %d, not %x", p.k, p.m, size, few(all), e, few(want))
			}
		}
	}
}

// TestP14_4Great is wholes of MaxVolume bytes and of one less.
func TestP14_4Great(t *testing.T) {
	x := drawn(64)
	for _, p := range []pair{{1, 1}, {3, 2}, {10, 4}, {14, 0}} {
		for _, less := range []int{0, 1} {
			w := x.whole(p, api.MaxVolume-less)
			w.isWhole(t, w.without(x.lost(p.k+p.m, p.m)))
			w.isWhole(t, w.torn(&x, p.m))
		}
	}
}

// TestP14_4Mixed is shards that are lost and rows that are lost in others, together m at most in each row.
func TestP14_4Mixed(t *testing.T) {
	x := drawn(65)
	for range 400 {
		p := pairs()[x.below(len(pairs()))]
		w := x.whole(p, 1+x.below(p.k*16*5))
		shards := w.without(nil)
		gone := x.lost(p.k+p.m, x.below(p.m+1))
		for r := range shards[0] {
			more := x.below(p.m - len(gone) + 1)
			for _, i := range x.lost(p.k+p.m, p.k+p.m) {
				if more > 0 && !slices.Contains(gone, i) {
					shards[i][r] = nil
					more--
				}
			}
		}
		for _, i := range gone {
			shards[i] = nil
		}
		w.isWhole(t, shards)
	}
}

// TestP14_4Lost is as many lost in a row as can be, and one more: in one row, the first, the last, one between, or another shard in each.
func TestP14_4Lost(t *testing.T) {
	x := drawn(66)
	for _, p := range pairs() {
		const height = 4
		w := x.whole(p, p.k*16*height-x.below(16*p.k))
		for bad := range height {
			shards := w.torn(&x, p.m)
			w.isWhole(t, shards)
			i := slices.IndexFunc(rowOf(shards, bad), func(row []byte) bool { return len(row) > 0 })
			shards[i][bad] = nil
			isMend(t, shards, p, len(w.b), nil, api.ErrLost)
		}
		isMend(t, w.torn(&x, p.m+1), p, len(w.b), nil, api.ErrLost)
		isMend(t, w.torn(&x, p.k+p.m), p, len(w.b), nil, api.ErrLost)
		isMend(t, w.without(x.lost(p.k+p.m, p.m+1)), p, len(w.b), nil, api.ErrLost)
		isMend(t, make([][][]byte, p.k+p.m), p, len(w.b), nil, api.ErrLost)
	}
}

// TestP14_4Unasked is a row of which too many are lost behind the first ones: Part that needs it not is answered, Mend is ErrLost.
func TestP14_4Unasked(t *testing.T) {
	x := drawn(67)
	p := pair{2, 1}
	w := x.whole(p, 2*16*3)
	shards := w.without(nil)
	shards[0][2], shards[2][2] = nil, nil
	w.isBytes(t, shards, 0, 2*16*2)
	w.isBytes(t, shards, 2*16*2+16, 16)
	w.isLost(t, shards, 0, 2*16*2+1)
	isMend(t, shards, p, len(w.b), nil, api.ErrLost)
}

// TestP14_4Others is rows behind the first k that are there and do not fit: Mend puts them right, and all the first k stay.
func TestP14_4Others(t *testing.T) {
	x := drawn(68)
	for _, p := range pairs() {
		for range 10 {
			w := x.whole(p, 1+x.below(p.k*16*4))
			shards := w.torn(&x, x.below(p.m+1))
			for r := range shards[0] {
				there := 0
				for i := range shards {
					if len(shards[i][r]) > 0 {
						there++
						if there > p.k && x.below(3) > 0 {
							shards[i][r] = x.row(16)
						}
					}
				}
			}
			w.isWhole(t, shards)
		}
	}
}

// TestP14_4First is rows that do not fit, of which any one may be another: the first k that are there stay, all others fit these.
func TestP14_4First(t *testing.T) {
	x := drawn(69)
	for _, p := range pairs() {
		for range 10 {
			size := 1 + x.below(p.k*16*4)
			shards := x.whole(p, size).torn(&x, x.below(p.m+1))
			for i := range shards {
				for r := range shards[i] {
					if len(shards[i][r]) > 0 && x.below(4) == 0 {
						shards[i][r] = x.row(16)
					}
				}
			}
			want, e := paperMend(shards, p, size)
			isMend(t, shards, p, size, want, e)
			got, _ := strip.Mend(shards, p.k, p.m, size)
			for r := range shards[0] {
				there := 0
				for i := range shards {
					if row := shards[i][r]; len(row) > 0 && there < p.k {
						there++
						if !bytes.Equal(got[i][r*16:][:16], row) {
							t.Fatalf("%d, %d: the row %d of the shard %d does not stay", p.k, p.m, r, i)
						}
					}
				}
			}
		}
	}
}

// TestP14_4Size is sizes of one height: which of them is told has no say in what is answered, but another height is ErrArg.
func TestP14_4Size(t *testing.T) {
	x := drawn(70)
	p := pair{3, 2}
	w := x.whole(p, 3*16*3)
	for size := range 3*16*5 + 1 {
		if size > 3*16*2 && size <= 3*16*3 {
			isMend(t, w.torn(&x, 2), p, size, w.shards, api.OK)
		} else {
			isMend(t, w.torn(&x, 2), p, size, nil, api.ErrArg)
			isMend(t, w.torn(&x, 5), p, size, nil, api.ErrArg)
		}
	}
}
