package shard_test

import (
	"slices"
	"testing"

	"garner/api"
	"garner/shard"
)

// TestP8_3Hand is rows that were held against one another by hand.
func TestP8_3Hand(t *testing.T) {
	isRight(t, [][]byte{{1}, {2}, {123}}, pair{2, 1}, true, api.OK)
	isRight(t, [][]byte{{1}, {2}, {122}}, pair{2, 1}, false, api.OK)
	isRight(t, [][]byte{{7}, {7}}, pair{1, 1}, true, api.OK)
	isRight(t, [][]byte{{7}, {9}}, pair{1, 1}, false, api.OK)
	isWrong(t, [][]byte{{1}, {2}, {123}}, pair{2, 1}, -1, api.OK)
	isWrong(t, [][]byte{{1}, {2}, {122}}, pair{2, 1}, 0, api.OK)
	isWrong(t, [][]byte{{7}, {7}}, pair{1, 1}, -1, api.OK)
	isWrong(t, [][]byte{{7}, {9}}, pair{1, 1}, 0, api.OK)
	isWrong(t, [][]byte{{1}, {1}, {142}}, pair{1, 2}, -1, api.OK)
	isWrong(t, [][]byte{{3}, {1}, {142}}, pair{1, 2}, 0, api.OK)
	isWrong(t, [][]byte{{1}, {3}, {142}}, pair{1, 2}, 1, api.OK)
	isWrong(t, [][]byte{{1}, {1}, {3}}, pair{1, 2}, 2, api.OK)
	isWrong(t, [][]byte{{1}, {3}, {5}}, pair{1, 2}, 0, api.ErrLost)
	isWrong(t, [][]byte{{1}, {2}, {123}, {244}}, pair{2, 2}, 3, api.OK)
	isWrong(t, [][]byte{{1}, {9}, {123}, {245}}, pair{2, 2}, 1, api.OK)
}

// TestP8_3Right is rows that fit, for every k and m and of many lengths: nothing is wrong.
func TestP8_3Right(t *testing.T) {
	x := drawn(41)
	for _, p := range pairs() {
		for _, n := range lengths() {
			all := x.fitting(p, n)
			isRight(t, all, p, true, api.OK)
			isWrong(t, all, p, -1, api.OK)
		}
		none := noughts(p.k+p.m, 3)
		isRight(t, none, p, true, api.OK)
		isWrong(t, none, p, -1, api.OK)
	}
}

// TestP8_3NoSums is m 0: whatever stands there fits.
func TestP8_3NoSums(t *testing.T) {
	x := drawn(42)
	for k := 1; k <= api.MaxRow; k++ {
		for _, n := range lengths() {
			isRight(t, x.rows(k, n), pair{k, 0}, true, api.OK)
			isWrong(t, x.rows(k, n), pair{k, 0}, -1, api.OK)
		}
	}
}

// TestP8_3OneSum is m 1: any k rows fit one another, so that the first row is named, whichever was changed.
func TestP8_3OneSum(t *testing.T) {
	x := drawn(43)
	for k := 1; k < api.MaxRow; k++ {
		p := pair{k, 1}
		for i := range k + 1 {
			for _, n := range []int{1, 2, 17} {
				all := x.fitting(p, n)
				all[i][x.below(n)] ^= x.some()
				isRight(t, all, p, false, api.OK)
				isWrong(t, all, p, 0, api.OK)
			}
		}
		rows := x.fitting(p, 9)
		for i := range rows {
			rows[i][i%9] ^= x.some()
		}
		isRight(t, rows, p, paperRight(rows, k), api.OK)
		isWrong(t, rows, p, 0, api.OK)
	}
}

// TestP8_3Places is rows of which one number is not as it should be, at each place and in each row.
func TestP8_3Places(t *testing.T) {
	x := drawn(44)
	for _, p := range []pair{{1, 1}, {1, 2}, {2, 2}, {3, 1}, {4, 3}, {10, 4}, {13, 1}, {12, 2}} {
		for _, n := range []int{1, 2, 3, 17} {
			for i := range p.k + p.m {
				for at := range n {
					all := x.fitting(p, n)
					all[i][at] ^= x.some()
					isRight(t, all, p, false, api.OK)
				}
			}
		}
	}
}

// TestP8_3Exchanged is rows that fit, of which two have changed places.
func TestP8_3Exchanged(t *testing.T) {
	x := drawn(45)
	for _, p := range pairs() {
		if p.m == 0 || p.k+p.m == 2 {
			continue
		}
		all := x.fitting(p, 4)
		for i := range all {
			for j := range i {
				rows := copied(all)
				rows[i], rows[j] = rows[j], rows[i]
				isRight(t, rows, p, paperRight(rows, p.k), api.OK)
			}
		}
	}
}

// TestP8_3Drawn is rows of which some numbers were changed, in one row, in two, in more, against the paper.
func TestP8_3Drawn(t *testing.T) {
	x := drawn(46)
	for _, p := range pairs() {
		for range 12 {
			n := 1 + x.below(3)
			all := x.fitting(p, n)
			for range x.below(4) {
				all[x.below(p.k+p.m)][x.below(n)] ^= x.next() & 3
			}
			isRight(t, all, p, paperRight(all, p.k), api.OK)
			want, e := paperWrong(all, p.k)
			isWrong(t, all, p, want, e)
		}
	}
}

// TestP8_3Few is all numbers of three rows of one byte up to 15, and what the paper says of them.
func TestP8_3Few(t *testing.T) {
	for all := range 1 << 12 {
		rows := [][]byte{{byte(all & 15)}, {byte(all >> 4 & 15)}, {byte(all >> 8)}}
		for _, p := range []pair{{1, 2}, {2, 1}, {3, 0}} {
			isRight(t, rows, p, paperRight(rows, p.k), api.OK)
			want, e := paperWrong(rows, p.k)
			isWrong(t, rows, p, want, e)
		}
	}
}

// TestP8_3Two is rows of which two were changed, with m of 3 and more: there is no row without which the others fit.
func TestP8_3Two(t *testing.T) {
	x := drawn(47)
	for _, p := range pairs() {
		if p.m < 3 {
			continue
		}
		for _, two := range sets(p.k+p.m, 2) {
			all := x.fitting(p, 3)
			at := x.below(3)
			all[two[0]][at] ^= x.some()
			all[two[1]][at] ^= x.some()
			isRight(t, all, p, false, api.OK)
			isWrong(t, all, p, 0, api.ErrLost)
		}
	}
}

// TestP8_3TwoPlaces is rows of which two were changed, each at another place, with m of 2 and more: at each place a row might be named, but not the same one.
func TestP8_3TwoPlaces(t *testing.T) {
	x := drawn(48)
	for _, p := range pairs() {
		if p.m < 2 {
			continue
		}
		for _, two := range sets(p.k+p.m, 2) {
			for _, places := range [][2]int{{0, 1}, {1, 0}, {0, 8}, {8, 0}, {7, 8}} {
				all := x.fitting(p, 9)
				all[two[0]][places[0]] ^= x.some()
				all[two[1]][places[1]] ^= x.some()
				isRight(t, all, p, false, api.OK)
				isWrong(t, all, p, 0, api.ErrLost)
			}
		}
	}
}

// TestP8_3Nearer is m 2 and two rows changed so that the others fit without a third one: that is named, though it is as it was.
func TestP8_3Nearer(t *testing.T) {
	x := drawn(49)
	for _, p := range pairs() {
		if p.m != 2 {
			continue
		}
		all := x.fitting(p, 4)
		for _, three := range sets(p.k+p.m, 3) {
			other := copied(all)
			for _, i := range three[:2] {
				other[i] = nil
			}
			for at := range 4 {
				other[three[2]][at] ^= x.some()
			}
			// They differ in those three rows alone.
			other = mends(t, other, p)
			for _, i := range three {
				rows := copied(other)
				rows[i] = all[i]
				isRight(t, rows, p, false, api.OK)
				isWrong(t, rows, p, i, api.OK)
			}
		}
	}
}

// TestP8_3Lost is rows of which one, some or all are lost: Right and Wrong say so, whatever else stands there.
func TestP8_3Lost(t *testing.T) {
	x := drawn(50)
	for _, p := range pairs() {
		for some := 1; some <= p.k+p.m; some++ {
			for _, all := range [][][]byte{x.fitting(p, 3), x.rows(p.k+p.m, 3), noughts(p.k+p.m, 1)} {
				rows := without(all, x.lost(p.k+p.m, some))
				isRight(t, rows, p, false, api.ErrLost)
				isWrong(t, rows, p, 0, api.ErrLost)
			}
		}
		for i := range p.k + p.m {
			for _, none := range [][]byte{nil, {}, []byte{1, 2, 3}[:0]} {
				rows := x.fitting(p, 3)
				rows[i] = none
				isRight(t, rows, p, false, api.ErrLost)
				isWrong(t, rows, p, 0, api.ErrLost)
			}
		}
	}
}

// TestP8_3LostUnlike is rows of which one is lost and two others are of unlike length, or that are too few or too many: ErrArg is named first.
func TestP8_3LostUnlike(t *testing.T) {
	x := drawn(51)
	for _, p := range pairs() {
		for _, three := range sets(p.k+p.m, 3) {
			rows := x.fitting(p, 3)
			rows[three[0]], rows[three[1]], rows[three[2]] = nil, x.row(2), x.row(3)
			isRefused(t, rows, p, api.ErrArg)
			rows[three[0]], rows[three[1]], rows[three[2]] = x.row(4), []byte{}, x.row(3)
			isRefused(t, rows, p, api.ErrArg)
			rows[three[0]], rows[three[1]], rows[three[2]] = x.row(3), x.row(300), nil
			isRefused(t, rows, p, api.ErrArg)
		}
		rows := x.fitting(p, 3)
		rows[x.below(p.k+p.m)] = nil
		isRefused(t, append(rows, x.row(3)), p, api.ErrArg)
		isRefused(t, append(rows, nil), p, api.ErrArg)
		isRefused(t, rows[1:], p, api.ErrArg)
		isRefused(t, rows, pair{0, p.k + p.m}, api.ErrArg)
		isRefused(t, rows, pair{p.k + p.m + 1, -1}, api.ErrArg)
	}
}

// TestP8_4Wrong is one row changed, with m of 2 and more: it is named, for every k and m, whether one number of it is changed, each one, or all are noughts.
func TestP8_4Wrong(t *testing.T) {
	x := drawn(52)
	for _, p := range pairs() {
		if p.m < 2 {
			continue
		}
		for i := range p.k + p.m {
			for _, n := range []int{1, 2, 16, 65} {
				for _, at := range slices.Compact([]int{0, n / 2, n - 1}) {
					all := x.fitting(p, n)
					all[i][at] ^= x.some()
					isRight(t, all, p, false, api.OK)
					isWrong(t, all, p, i, api.OK)
				}
				all := x.fitting(p, n)
				for at := range n {
					all[i][at] ^= x.some()
				}
				isWrong(t, all, p, i, api.OK)
				all[i] = make([]byte, n)
				isWrong(t, all, p, wrongNoughts(all, p.k, i), api.OK)
				none := noughts(p.k+p.m, n)
				none[i][n-1] = x.some()
				isWrong(t, none, p, i, api.OK)
			}
		}
	}
}

// wrongNoughts is which row is wrong where the row i has become noughts: none, if it was so.
func wrongNoughts(rows [][]byte, k, i int) int {
	if paperRight(rows, k) {
		return -1
	}
	return i
}

// TestP8_4WrongNumbers is each number that a row may be changed by.
func TestP8_4WrongNumbers(t *testing.T) {
	x := drawn(53)
	for _, p := range []pair{{1, 2}, {2, 2}, {3, 3}, {10, 4}, {12, 2}, {1, 13}} {
		all := x.fitting(p, 2)
		for i := range all {
			for by := 1; by < 256; by++ {
				all[i][1] ^= byte(by)
				isWrong(t, all, p, i, api.OK)
				all[i][1] ^= byte(by)
			}
		}
	}
}

// TestP8_4WrongGreat is one row of very many bytes changed, at one place and at all of them.
func TestP8_4WrongGreat(t *testing.T) {
	x := drawn(54)
	const n = 1 << 17
	for _, p := range []pair{{3, 2}, {10, 4}} {
		for _, i := range []int{0, p.k - 1, p.k, p.k + p.m - 1} {
			all := x.fitting(p, n)
			all[i][n-1] ^= x.some()
			isRight(t, all, p, false, api.OK)
			isWrong(t, all, p, i, api.OK)
			for at := range n {
				all[i][at] ^= 0x5a
			}
			isWrong(t, all, p, i, api.OK)
		}
	}
}

// TestP8_4Healed is rows of which Wrong names one: without it, Mend brings all back.
func TestP8_4Healed(t *testing.T) {
	x := drawn(55)
	for _, p := range pairs() {
		if p.m < 2 {
			continue
		}
		want := x.fitting(p, 7)
		rows := copied(want)
		rows[x.below(p.k+p.m)] = x.row(7)
		i, e := shard.Wrong(rows, p.k, p.m)
		if e != api.OK || i < -1 || i >= p.k+p.m {
			t.Fatalf("Wrong of %d, %d: %d, %d", p.k, p.m, i, e)
		}
		if i >= 0 {
			rows[i] = nil
		}
		isMend(t, rows, p, want, api.OK)
	}
}

// TestW1Wrong is Right and Wrong of whatever is drawn: each call ends, and answers as on paper.
func TestW1Wrong(t *testing.T) {
	x := drawn(56)
	for range 3000 {
		p := pair{x.below(17) - 1, x.below(17) - 1}
		rows := x.rows(x.below(17), x.below(3))
		if x.below(4) > 0 {
			p = x.pair()
			rows = x.fitting(p, 1+x.below(2))
			rows[x.below(len(rows))][0] ^= x.next() & 1
		}
		if x.below(8) == 0 && len(rows) > 0 {
			rows[x.below(len(rows))] = x.row(x.below(4))
		}
		e := drawnError(rows, p)
		if e == api.OK && slices.ContainsFunc(rows, func(row []byte) bool { return len(row) == 0 }) {
			e = api.ErrLost
		}
		if e != api.OK {
			isRight(t, rows, p, false, e)
			isWrong(t, rows, p, 0, e)
			continue
		}
		isRight(t, rows, p, paperRight(rows, p.k), api.OK)
		want, e := paperWrong(rows, p.k)
		isWrong(t, rows, p, want, e)
	}
}
