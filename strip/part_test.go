package strip_test

import (
	"bytes"
	"math"
	"slices"
	"testing"

	"garner/api"
	"garner/strip"
)

// isBytes asks Part for a place and length of a whole, as it was ahead of any loss.
func (w *whole) isBytes(t *testing.T, shards [][][]byte, at, n int) {
	t.Helper()
	isPart(t, shards, w.pair, len(w.b), at, n, w.b[at:at+n], api.OK)
}

// isLost asks Part for ErrLost.
func (w *whole) isLost(t *testing.T, shards [][][]byte, at, n int) {
	t.Helper()
	isPart(t, shards, w.pair, len(w.b), at, n, nil, api.ErrLost)
}

// TestP14_3Example is the chapter's own: 40 bytes, 2, 1, the first shard lost, at 10, 20.
func TestP14_3Example(t *testing.T) {
	x := drawn(31)
	w := x.whole(pair{2, 1}, 40)
	w.isBytes(t, w.without([]int{0}), 10, 20)
	for _, lost := range [][]int{nil, {1}, {2}} {
		w.isBytes(t, w.without(lost), 10, 20)
	}
}

// TestP14_3All is Part of each place and each length, with each shard lost that may be, and each two.
func TestP14_3All(t *testing.T) {
	x := drawn(32)
	for _, c := range []struct {
		p    pair
		size int
	}{{pair{1, 0}, 40}, {pair{1, 1}, 35}, {pair{2, 1}, 72}, {pair{2, 2}, 70}, {pair{3, 2}, 97}, {pair{4, 0}, 70}} {
		w := x.whole(c.p, c.size)
		for some := range c.p.m + 1 {
			for _, lost := range sets(c.p.k+c.p.m, some) {
				shards := w.without(lost)
				for at := range c.size + 1 {
					for n := range c.size - at + 1 {
						w.isBytes(t, shards, at, n)
					}
				}
			}
		}
	}
}

// TestP14_3Bounds is Part from and to each bound of blocks and of rows, one less and one more, with rows lost here and there.
func TestP14_3Bounds(t *testing.T) {
	x := drawn(33)
	for _, p := range somePairs() {
		size := p.k*16*4 + x.below(p.k*16)
		w := x.whole(p, size)
		shards := w.torn(&x, p.m)
		var bounds []int
		for at := 0; at <= size; at += 16 {
			for _, by := range []int{-1, 0, 1} {
				if at+by >= 0 && at+by <= size {
					bounds = append(bounds, at+by)
				}
			}
		}
		for _, at := range bounds {
			for _, end := range append(bounds, size) {
				if at <= end {
					w.isBytes(t, shards, at, end-at)
				}
			}
		}
	}
}

// TestP14_6Part is Part of some places, and of all, whichever m shards are lost, for every k and m.
func TestP14_6Part(t *testing.T) {
	x := drawn(34)
	for _, p := range pairs() {
		size := 1 + x.below(p.k*16*3)
		w := x.whole(p, size)
		l := sets(p.k+p.m, p.m)
		for range min(len(l), 60) {
			shards := w.without(l[x.below(len(l))])
			w.isBytes(t, shards, 0, size)
			at := x.below(size + 1)
			w.isBytes(t, shards, at, x.below(size-at+1))
		}
	}
}

// TestP14_6PartRows is the same, in each row any m rows lost, or fewer, for all sizes around blocks and rows.
func TestP14_6PartRows(t *testing.T) {
	x := drawn(35)
	for _, p := range pairs() {
		for _, size := range append(p.sizes(), 1000) {
			w := x.whole(p, size)
			for _, n := range []int{p.m, x.below(p.m + 1)} {
				shards := w.torn(&x, n)
				w.isBytes(t, shards, 0, size)
				at := x.below(size + 1)
				w.isBytes(t, shards, at, x.below(size-at+1))
			}
		}
	}
}

// TestP14_3Size is wholes of one byte and of MaxVolume: at the beginning, at the end, all of it, with m shards or rows lost.
func TestP14_3Size(t *testing.T) {
	x := drawn(36)
	for _, p := range pairs() {
		w := x.whole(p, 1)
		for _, lost := range [][]int{x.lost(p.k+p.m, p.m), x.lost(p.k+p.m, p.m/2)} {
			shards := w.without(lost)
			w.isBytes(t, shards, 0, 1)
			w.isBytes(t, shards, 0, 0)
			w.isBytes(t, shards, 1, 0)
			isPart(t, shards, p, 1, 0, 2, nil, api.ErrArg)
			isPart(t, shards, p, 1, 1, 1, nil, api.ErrArg)
		}
	}
	const most = api.MaxVolume
	for _, p := range []pair{{1, 1}, {3, 2}, {10, 4}, {14, 0}} {
		w := x.whole(p, most)
		for _, shards := range [][][][]byte{w.without(x.lost(p.k+p.m, p.m)), w.torn(&x, p.m)} {
			for _, at := range []int{0, 1, 16, most / 2, most - 17, most - 16, most - 1, most} {
				for _, n := range []int{0, 1, 15, 16, 17, 1000, most} {
					w.isBytes(t, shards, at, min(n, most-at))
				}
			}
			isPart(t, shards, p, most, most, 1, nil, api.ErrArg)
			isPart(t, shards, p, most, 0, most+1, nil, api.ErrArg)
			isPart(t, shards, p, most+1, 0, 1, nil, api.ErrArg)
		}
	}
}

// TestP14_3End is the last places: at and n whose sum is just the size, and one more, also where the size is within a block and the bytes behind it are there.
func TestP14_3End(t *testing.T) {
	x := drawn(37)
	for _, p := range somePairs() {
		for _, size := range p.sizes() {
			w := x.whole(p, size)
			shards := w.torn(&x, p.m)
			for at := max(0, size-20); at <= size; at++ {
				w.isBytes(t, shards, at, size-at)
				isPart(t, shards, p, size, at, size-at+1, nil, api.ErrArg)
				isPart(t, shards, p, size, at, math.MaxInt, nil, api.ErrArg)
				isPart(t, shards, p, size, at, math.MaxInt-at, nil, api.ErrArg)
				isPart(t, shards, p, size, at, math.MaxInt-at+size, nil, api.ErrArg)
			}
			isPart(t, shards, p, size, size+1, 0, nil, api.ErrArg)
			isPart(t, shards, p, size, size+1, -1, nil, api.ErrArg)
		}
	}
}

// TestP14_3Outside is places and lengths below 0, and the greatest, whose sums would run over.
func TestP14_3Outside(t *testing.T) {
	x := drawn(38)
	w := x.whole(pair{2, 1}, 100)
	below := []int{-1, -2, -16, -100, -101, math.MinInt32, math.MinInt + 100, math.MinInt + 1, math.MinInt}
	above := []int{101, 102, 128, 256, math.MaxInt32, 1 << 32, 1<<32 + 1, math.MaxInt - 100, math.MaxInt - 1, math.MaxInt}
	for _, shards := range [][][][]byte{w.without(nil), w.without([]int{0}), w.without([]int{0, 1, 2})} {
		for _, n := range slices.Concat(below, above) {
			for _, other := range slices.Concat(below, above, []int{0, 1, 50, 100}) {
				isPart(t, shards, w.pair, 100, n, other, nil, api.ErrArg)
				isPart(t, shards, w.pair, 100, other, n, nil, api.ErrArg)
			}
		}
	}
}

// TestP14_3Lost is as many shards lost as can be, and one more: what needs no other is there all the same.
func TestP14_3Lost(t *testing.T) {
	x := drawn(39)
	for _, p := range pairs() {
		size := p.k*16*2 + 1
		w := x.whole(p, size)
		for range 5 {
			lost := x.lost(p.k+p.m, p.m+1)
			shards := w.without(lost)
			// One of the first k at least is lost, for there are but m others.
			w.isLost(t, shards, 0, size)
			for j := range size / 16 {
				if slices.Contains(lost, j%p.k) {
					w.isLost(t, shards, j*16, 16)
					w.isLost(t, shards, j*16+15, 1)
				} else {
					w.isBytes(t, shards, j*16, 16)
				}
			}
		}
	}
}

// TestP14_3None is n 0 where all is lost, at each place of the whole: it needs no row.
func TestP14_3None(t *testing.T) {
	x := drawn(40)
	for _, p := range somePairs() {
		w := x.whole(p, 90)
		var all []int
		for i := range p.k + p.m {
			all = append(all, i)
		}
		rows := w.torn(&x, p.k+p.m)
		for at := range 91 {
			w.isBytes(t, w.without(all), at, 0)
			w.isBytes(t, rows, at, 0)
			isPart(t, make([][][]byte, p.k+p.m), p, 90, at, 0, nil, api.OK)
			if at < 90 {
				w.isLost(t, rows, at, 1)
				w.isLost(t, w.without(all), at, 90-at)
			}
		}
		isPart(t, w.without(all), p, 90, 91, 0, nil, api.ErrArg)
		isPart(t, w.without(all), p, 90, 0, -1, nil, api.ErrArg)
	}
}

// TestP14_3Needed is one row of which too many are lost: what asks for no block of it that is not there is answered, all else is ErrLost.
func TestP14_3Needed(t *testing.T) {
	x := drawn(41)
	for _, p := range somePairs() {
		const height = 4
		size := p.k * 16 * height
		w := x.whole(p, size)
		for bad := range height {
			shards := w.torn(&x, p.m)
			lost := x.lost(p.k+p.m, p.m+1+x.below(p.k))
			for i, rows := range rowsOf(w.shards) {
				shards[i][bad] = rows[bad]
				if slices.Contains(lost, i) {
					shards[i][bad] = nil
				}
			}
			row := p.k * 16
			w.isBytes(t, shards, 0, bad*row)
			w.isBytes(t, shards, (bad+1)*row, size-(bad+1)*row)
			w.isLost(t, shards, bad*row, row)
			w.isLost(t, shards, 0, size)
			for i := range p.k {
				at := bad*row + i*16
				if slices.Contains(lost, i) {
					w.isLost(t, shards, at, 16)
					w.isLost(t, shards, at, 1)
					w.isLost(t, shards, 0, at+1)
					w.isBytes(t, shards, at, 0)
					continue
				}
				w.isBytes(t, shards, at, 16)
				w.isBytes(t, shards, at+7, 1)
			}
		}
	}
}

// TestP14_3Others is rows that do not fit: a block that is there is what its shard has, one that is not is made out of the first k that have the row, and those behind these have no say.
func TestP14_3Others(t *testing.T) {
	block := func(x byte) []byte { return bytes.Repeat([]byte{x}, 16) }
	p := pair{2, 2}
	// Of the rows 1, 2, 123, 245 the third one is another.
	shards := [][][]byte{{block(1)}, {block(2)}, {block(9)}, {block(245)}}
	isPart(t, shards, p, 32, 0, 32, slices.Concat(block(1), block(2)), api.OK)
	shards[1] = nil
	made := product(paper().inverse[244], 9^142)
	isPart(t, shards, p, 32, 0, 32, slices.Concat(block(1), block(made)), api.OK)
	shards[2] = nil
	isPart(t, shards, p, 32, 0, 32, slices.Concat(block(1), block(2)), api.OK)
	// A block that is there is taken, though it does not fit the others.
	isPart(t, [][][]byte{{block(7)}, {block(2)}, {block(123)}, {block(245)}}, p, 32, 0, 32, slices.Concat(block(7), block(2)), api.OK)
	x := drawn(42)
	for _, p := range pairs() {
		for range 10 {
			size := 1 + x.below(p.k*16*4)
			w := x.whole(p, size)
			shards := w.torn(&x, x.below(p.m+1))
			for range 1 + x.below(3) {
				rows := shards[x.below(len(shards))]
				if r := x.below(len(rows)); len(rows[r]) > 0 {
					rows[r] = x.row(16)
				}
			}
			at := x.below(size + 1)
			for _, c := range [][2]int{{0, size}, {at, x.below(size - at + 1)}} {
				want, e := paperPart(shards, p, size, c[0], c[1])
				isPart(t, shards, p, size, c[0], c[1], want, e)
			}
		}
	}
}

// TestP14_3Behind is bytes behind the size, in the last row of the shards: they are not 0, and are never told.
func TestP14_3Behind(t *testing.T) {
	x := drawn(43)
	p := pair{3, 2}
	w := x.whole(p, 3*16*2)
	for size := 3*16 + 1; size <= len(w.b); size++ {
		shards := w.torn(&x, 2)
		isPart(t, shards, p, size, 0, size, w.b[:size], api.OK)
		isPart(t, shards, p, size, size-1, 1, w.b[size-1:size], api.OK)
		isPart(t, shards, p, size, size, 1, nil, api.ErrArg)
	}
}

// TestP14_3Refused is what Code refuses, with as many shards as it asks for where there are any, and with others.
func TestP14_3Refused(t *testing.T) {
	x := drawn(44)
	w := x.whole(pair{2, 1}, 40)
	for _, p := range refused() {
		for _, shards := range [][][][]byte{nil, {}, w.without(nil), make([][][]byte, 3), make([][][]byte, 14), make([][][]byte, 15)} {
			isRefused(t, shards, p, 40)
		}
		if n := p.k + p.m; n >= 0 && n < 1000 {
			isRefused(t, make([][][]byte, n), p, 40)
			isRefused(t, slices.Repeat([][][]byte{{make([]byte, 16)}}, n), p, 16)
		}
	}
}

// TestP14_3NoSize is sizes that no whole has, with shards of right ones and with none that is there.
func TestP14_3NoSize(t *testing.T) {
	x := drawn(45)
	for _, p := range somePairs() {
		w := x.whole(p, 40)
		for _, size := range noSizes() {
			for _, shards := range [][][][]byte{w.without(nil), make([][][]byte, p.k+p.m), slices.Repeat([][][]byte{{{}}}, p.k+p.m)} {
				isPart(t, shards, p, size, 0, 0, nil, api.ErrArg)
				isPart(t, shards, p, size, 0, 1, nil, api.ErrArg)
				isPart(t, shards, p, size, size, 0, nil, api.ErrArg)
				isMend(t, shards, p, size, nil, api.ErrArg)
			}
		}
	}
}

// TestP14_3Count is too few and too many shards: it is named ahead of what is lost.
func TestP14_3Count(t *testing.T) {
	x := drawn(46)
	for _, p := range pairs() {
		w := x.whole(p, 40)
		all := w.without(nil)
		isRefused(t, nil, p, 40)
		isRefused(t, all[:len(all)-1], p, 40)
		isRefused(t, append(w.without(nil), all[0]), p, 40)
		isRefused(t, append(w.without(nil), nil), p, 40)
		for n := range 20 {
			if n != p.k+p.m {
				isRefused(t, make([][][]byte, n), p, 40)
			}
		}
	}
}

// TestP14_3Height is shards with a row too many or too few, whichever one and whatever else is lost, also where no row of it is asked for.
func TestP14_3Height(t *testing.T) {
	x := drawn(47)
	for _, p := range pairs() {
		for _, size := range []int{1, 16*p.k*3 - 1, 16 * p.k * 3, 16*p.k*3 + 1} {
			w := x.whole(p, size)
			for i := range p.k + p.m {
				for _, shards := range [][][][]byte{w.without(nil), make([][][]byte, p.k+p.m), w.torn(&x, p.m)} {
					was := rowsOf(w.shards)[i]
					shards[i] = append(slices.Clone(was), x.row(16))
					isRefused(t, shards, p, size)
					shards[i] = append(slices.Clone(was), nil)
					isRefused(t, shards, p, size)
					shards[i] = make([][]byte, len(was)+1)
					isRefused(t, shards, p, size)
					if len(was) > 1 {
						shards[i] = was[:len(was)-1]
						isRefused(t, shards, p, size)
						shards[i] = make([][]byte, len(was)-1)
						isRefused(t, shards, p, size)
					}
				}
			}
			shards := w.without(nil)
			for i := range shards {
				shards[i] = append(shards[i], x.row(16))
			}
			isRefused(t, shards, p, size)
		}
	}
}

// TestP14_3Rows is rows of a length that is neither 0 nor Block, at each place, also of shards of sums, where nothing is asked for, and where too many are lost.
func TestP14_3Rows(t *testing.T) {
	x := drawn(48)
	for _, p := range somePairs() {
		w := x.whole(p, 16*p.k*3)
		for i := range p.k + p.m {
			for r := range 3 {
				n := []int{1, 2, 15, 17, 31, 32, 160}[x.below(7)]
				for _, shards := range [][][][]byte{w.without(nil), w.torn(&x, p.m), w.torn(&x, p.k+p.m)} {
					shards[i][r] = x.row(n)
					isRefused(t, shards, p, len(w.b))
				}
			}
		}
	}
	w := x.whole(pair{1, 0}, 16)
	for n := range 70 {
		if n != 0 && n != 16 {
			isRefused(t, [][][]byte{{x.row(n)}}, w.pair, 16)
		}
	}
}

// TestW1Part is Part and Mend of whatever is drawn: each call ends, and answers what the words say.
func TestW1Part(t *testing.T) {
	x := drawn(49)
	for range 20000 {
		p := somePairs()[x.below(14)]
		size := 1 + x.below(p.k*16*3)
		shards := make([][][]byte, p.k+p.m)
		for i := range shards {
			if x.below(8) > 0 {
				for range p.height(size) {
					shards[i] = append(shards[i], x.row(16*(1-x.below(8)/7)))
				}
			}
		}
		at, n := x.below(size+1), x.below(size+1)
		switch x.below(40) {
		case 0:
			p = pair{x.below(17) - 1, x.below(17) - 1}
		case 1:
			size += x.below(600) - 300
		case 2:
			shards = shards[1:]
		case 3:
			shards[x.below(len(shards))] = make([][]byte, x.below(4))
		case 4:
			at = -1
		case 5:
			if rows := shards[x.below(len(shards))]; len(rows) > 0 {
				rows[x.below(len(rows))] = x.row(x.below(20))
			}
		}
		want, e := paperPart(shards, p, size, at, n)
		isPart(t, shards, p, size, at, n, want, e)
		if x.below(4) == 0 {
			all, e := paperMend(shards, p, size)
			isMend(t, shards, p, size, all, e)
		}
	}
}

// TestP14_3Chain is Part of what Read tells of damaged files, as a cluster asks it.
func TestP14_3Chain(t *testing.T) {
	x := drawn(50)
	for _, p := range somePairs() {
		size := 500 + x.below(500)
		w := x.whole(p, size)
		shards := make([][][]byte, p.k+p.m)
		for i, b := range w.shards {
			f, _ := strip.File(9, i, size, b)
			// Of each row at most m are damaged: no two shards at one place.
			if i < p.m {
				for r := i; r < p.height(size); r += p.m {
					f[20+20*r+x.below(20)] ^= byte(1 + x.below(255))
				}
			}
			_, _, _, rows, e := strip.Read(f)
			if e != api.OK {
				t.Fatalf("%d, %d: the shard %d: %d", p.k, p.m, i, e)
			}
			shards[i] = rows
		}
		w.isBytes(t, shards, 0, size)
		at := x.below(size)
		w.isBytes(t, shards, at, x.below(size-at))
		isMend(t, shards, p, size, w.shards, api.OK)
	}
}
