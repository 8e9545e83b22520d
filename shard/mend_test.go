package shard_test

import (
	"math"
	"slices"
	"testing"

	"garner/api"
	"garner/shard"
)

// TestP8_2Example is the chapter's own.
func TestP8_2Example(t *testing.T) {
	isMend(t, [][]byte{{1}, nil, {123}}, pair{2, 1}, [][]byte{{1}, {2}, {123}}, api.OK)
}

// TestP8_2Hand is rows that were mended by hand.
func TestP8_2Hand(t *testing.T) {
	all := [][]byte{{1}, {2}, {123}, {245}}
	for _, lost := range [][]int{nil, {0}, {1}, {2}, {3}, {0, 1}, {0, 2}, {0, 3}, {1, 2}, {1, 3}, {2, 3}} {
		isMend(t, without(all, lost), pair{2, 2}, all, api.OK)
	}
	isMend(t, [][]byte{{7}}, pair{1, 0}, [][]byte{{7}}, api.OK)
	isMend(t, [][]byte{{7}, nil}, pair{1, 1}, [][]byte{{7}, {7}}, api.OK)
	isMend(t, [][]byte{nil, {7}}, pair{1, 1}, [][]byte{{7}, {7}}, api.OK)
	isMend(t, [][]byte{nil, nil, {142}}, pair{1, 2}, [][]byte{{1}, {1}, {142}}, api.OK)
	// More than k are there, and they do not fit: the first k stay, the others are made to fit them.
	isMend(t, [][]byte{{7}, {9}}, pair{1, 1}, [][]byte{{7}, {7}}, api.OK)
	isMend(t, [][]byte{nil, {1}, {9}}, pair{1, 2}, [][]byte{{1}, {1}, {142}}, api.OK)
	isMend(t, [][]byte{{1}, {2}, {9}}, pair{2, 1}, [][]byte{{1}, {2}, {123}}, api.OK)
	isMend(t, [][]byte{{1}, nil, {123}, {9}}, pair{2, 2}, all, api.OK)
}

// TestP8_2None is rows of which none is lost, for every k and m: those that fit stay.
func TestP8_2None(t *testing.T) {
	x := drawn(21)
	for _, p := range pairs() {
		for _, n := range lengths() {
			all := x.fitting(p, n)
			isMend(t, all, p, all, api.OK)
		}
	}
}

// TestP8_2Edges is rows of which the first m, the last m, the first k or the last k are lost, as far as k are left, of one byte and of many.
func TestP8_2Edges(t *testing.T) {
	x := drawn(22)
	for _, p := range pairs() {
		for _, n := range []int{1, 2, 16, 257} {
			all := x.fitting(p, n)
			for some := range min(p.m, p.k) + 1 {
				var first, last []int
				for i := range some {
					first, last = append(first, i), append(last, p.k+p.m-1-i)
				}
				isMend(t, without(all, first), p, all, api.OK)
				isMend(t, without(all, last), p, all, api.OK)
			}
			var first, last []int
			for i := range p.m {
				first, last = append(first, i), append(last, p.k+i)
			}
			isMend(t, without(all, first), p, all, api.OK)
			isMend(t, without(all, last), p, all, api.OK)
			none := noughts(p.k+p.m, n)
			isMend(t, without(none, first), p, none, api.OK)
		}
	}
}

// TestP8_2FirstK is k and m of which all k rows of data may be lost.
func TestP8_2FirstK(t *testing.T) {
	x := drawn(23)
	for _, p := range pairs() {
		if p.m < p.k {
			continue
		}
		all := x.fitting(p, 6)
		var lost []int
		for i := range p.k {
			lost = append(lost, i)
		}
		isMend(t, without(all, lost), p, all, api.OK)
		for i := p.k; i < p.m; i++ {
			lost = append(lost, i)
		}
		isMend(t, without(all, lost), p, all, api.OK)
	}
}

// TestP8_2Others is rows that do not fit: more than k there, of which one is not as it should be, at each place and with up to m lost.
func TestP8_2Others(t *testing.T) {
	x := drawn(24)
	for _, p := range pairs() {
		for changed := range p.k + p.m {
			all := x.fitting(p, 4)
			all[changed][x.below(4)] ^= x.some()
			mends(t, all, p)
			for some := range p.m + 1 {
				mends(t, without(all, x.lost(p.k+p.m, some)), p)
			}
		}
	}
}

// TestP8_2OthersWhole is the same with the answer at hand: a row behind the first k is changed, and becomes what it was.
func TestP8_2OthersWhole(t *testing.T) {
	x := drawn(25)
	for _, p := range pairs() {
		all := x.fitting(p, 5)
		for range 20 {
			lost := x.lost(p.k+p.m, x.below(p.m+1))
			rows := without(all, lost)
			there := 0
			for i, row := range rows {
				if len(row) > 0 {
					there++
				}
				if there > p.k && len(row) > 0 && x.below(3) > 0 {
					rows[i] = x.row(5)
				}
			}
			isMend(t, rows, p, all, api.OK)
		}
	}
}

// TestP8_2Drawn is rows that have nothing to do with one another, with each set of lost ones for small k and m.
func TestP8_2Drawn(t *testing.T) {
	x := drawn(26)
	for _, p := range pairs() {
		if p.k+p.m > 7 {
			continue
		}
		for some := range p.k + p.m + 1 {
			for _, lost := range sets(p.k+p.m, some) {
				rows := without(x.rows(p.k+p.m, 2), lost)
				if some > p.m {
					isMend(t, rows, p, nil, api.ErrLost)
					continue
				}
				mends(t, rows, p)
			}
		}
	}
}

// TestP8_2Places is each place for itself: a row of the answer hangs at a place only on what stands there.
func TestP8_2Places(t *testing.T) {
	x := drawn(27)
	for _, n := range []int{1, 2, 3, 16, 65} {
		for at := range n {
			p := pair{4, 3}
			all := noughts(7, n)
			one := x.fitting(p, 1)
			for i := range all {
				all[i][at] = one[i][0]
			}
			isMend(t, without(all, x.lost(7, 3)), p, all, api.OK)
		}
	}
}

// TestP8_2Great is rows of very many bytes.
func TestP8_2Great(t *testing.T) {
	x := drawn(28)
	for _, n := range []int{65535, 65536, 65537, 1 << 20} {
		p := pair{3, 2}
		all := x.fitting(p, n)
		isMend(t, without(all, []int{0, 3}), p, all, api.OK)
	}
}

// TestP8_2Lost is rows of which fewer than k are not lost, down to none.
func TestP8_2Lost(t *testing.T) {
	x := drawn(29)
	for _, p := range pairs() {
		for some := p.m + 1; some <= p.k+p.m; some++ {
			for range 5 {
				all := x.fitting(p, 3)
				isMend(t, without(all, x.lost(p.k+p.m, some)), p, nil, api.ErrLost)
			}
		}
		for _, none := range [][]byte{nil, {}, []byte{1, 2, 3}[:0]} {
			isMend(t, slices.Repeat([][]byte{none}, p.k+p.m), p, nil, api.ErrLost)
		}
	}
}

// TestP8_2Refused is what Code refuses, beside as many rows as it asks for where there are any, and beside others.
func TestP8_2Refused(t *testing.T) {
	x := drawn(30)
	for _, p := range refused() {
		for _, rows := range [][][]byte{nil, {}, x.rows(1, 2), x.rows(2, 1), x.rows(14, 1), x.rows(15, 1), make([][]byte, 14), make([][]byte, 3)} {
			isRefused(t, rows, p, api.ErrArg)
		}
		if n := p.k + p.m; n >= 0 && n < 1000 {
			isRefused(t, x.rows(n, 2), p, api.ErrArg)
			isRefused(t, make([][]byte, n), p, api.ErrArg)
		}
	}
}

// TestP8_2Count is not k + m rows: fewer, more, none, and as many as the sum that wraps.
func TestP8_2Count(t *testing.T) {
	x := drawn(31)
	for _, p := range pairs() {
		for n := range 20 {
			if n == p.k+p.m {
				continue
			}
			isRefused(t, x.rows(n, 2), p, api.ErrArg)
			isRefused(t, noughts(n, 1), p, api.ErrArg)
			isRefused(t, make([][]byte, n), p, api.ErrArg)
		}
		isRefused(t, nil, p, api.ErrArg)
		isRefused(t, x.rows(p.k+p.m+256, 1), p, api.ErrArg)
		isRefused(t, x.rows(p.k+p.m, 1)[:p.k+p.m-1], p, api.ErrArg)
	}
	for n := range 20 {
		isRefused(t, x.rows(n, 1), pair{math.MaxInt, math.MinInt + 1 + n}, api.ErrArg)
		isRefused(t, x.rows(n, 1), pair{math.MinInt, math.MinInt + n}, api.ErrArg)
	}
}

// TestP8_2Unlike is two rows that are not lost of unlike length, whichever two: with none lost, with some, and with so many that fewer than k are left, for that is named later.
func TestP8_2Unlike(t *testing.T) {
	x := drawn(32)
	for _, p := range pairs() {
		all := p.k + p.m
		for i := range all {
			for j := range i {
				for _, n := range [][2]int{{1, 2}, {2, 1}, {16, 17}, {1, 257}, {256, 512}} {
					rows := make([][]byte, all)
					rows[i], rows[j] = x.row(n[0]), x.row(n[1])
					isRefused(t, rows, p, api.ErrArg)
					for at := range rows {
						if at != i && at != j {
							rows[at] = x.row(n[x.below(2)])
						}
					}
					isRefused(t, rows, p, api.ErrArg)
				}
			}
			rows := x.fitting(p, 3)
			if all > 1 {
				rows[i] = rows[i][:2]
				isRefused(t, rows, p, api.ErrArg)
			}
		}
	}
}

// TestP8_4Mend is whichever m of rows that fit are lost, for every k and m.
func TestP8_4Mend(t *testing.T) {
	x := drawn(33)
	for _, p := range pairs() {
		all := x.fitting(p, 3)
		for _, lost := range sets(p.k+p.m, p.m) {
			isMend(t, without(all, lost), p, all, api.OK)
		}
	}
}

// TestP8_4MendFewer is whichever rows, fewer than m.
func TestP8_4MendFewer(t *testing.T) {
	x := drawn(34)
	for _, p := range []pair{{1, 1}, {1, 5}, {2, 2}, {3, 2}, {4, 4}, {5, 1}, {6, 3}, {8, 4}, {10, 4}, {2, 6}} {
		all := x.fitting(p, 2)
		for some := range p.m {
			for _, lost := range sets(p.k+p.m, some) {
				isMend(t, without(all, lost), p, all, api.OK)
			}
		}
	}
}

// TestP8_4Chain is rows of which others are lost again and again, each time out of what was mended.
func TestP8_4Chain(t *testing.T) {
	x := drawn(35)
	for _, p := range pairs() {
		data := x.rows(p.k, 16)
		sums, e := shard.Sums(data, p.m)
		if e != api.OK {
			t.Fatalf("Sums of %d rows, %d: %d", p.k, p.m, e)
		}
		all := append(data, sums...)
		want := copied(all)
		for range 20 {
			all = mends(t, without(all, x.lost(p.k+p.m, p.m)), p)
			if !same(all, want) {
				t.Fatalf("%d, %d: %v, not %v", p.k, p.m, few(all), few(want))
			}
		}
	}
}

// TestW1Mend is Mend of whatever is drawn: each call ends, and answers what the words say.
func TestW1Mend(t *testing.T) {
	x := drawn(36)
	for range 20000 {
		p := pair{x.below(17) - 1, x.below(17) - 1}
		rows := x.rows(x.below(17), 1+x.below(3))
		if x.below(4) > 0 {
			p = x.pair()
			rows = x.rows(p.k+p.m, 1+x.below(3))
		}
		for i := range rows {
			switch x.below(40) {
			case 0:
				rows[i] = x.row(1 + x.below(4))
			case 1, 2, 3, 4, 5, 6:
				rows[i] = rows[i][:0]
			}
		}
		switch e := drawnError(rows, p); e {
		case api.OK:
			mends(t, rows, p)
		default:
			isMend(t, rows, p, nil, e)
		}
	}
}

// drawnError is Mend's error.
func drawnError(rows [][]byte, p pair) api.Errno {
	if p.k < 1 || p.m < 0 || p.k+p.m > api.MaxRow || len(rows) != p.k+p.m {
		return api.ErrArg
	}
	var there [][]byte
	for _, row := range rows {
		if len(row) > 0 {
			there = append(there, row)
		}
	}
	if !alike(there) {
		return api.ErrArg
	}
	if len(there) < p.k {
		return api.ErrLost
	}
	return api.OK
}
