package shard_test

import (
	"bytes"
	"math"
	"slices"
	"testing"

	"garner/api"
	"garner/shard"
)

// TestP8_1Example is the chapter's own.
func TestP8_1Example(t *testing.T) {
	isSums(t, [][]byte{{1}, {2}}, 1, [][]byte{{123}}, api.OK)
}

// TestP8_1Hand is sums that were worked out by hand.
func TestP8_1Hand(t *testing.T) {
	isSums(t, [][]byte{{7}}, 0, nil, api.OK)
	isSums(t, [][]byte{{7, 0, 255}}, 1, [][]byte{{7, 0, 255}}, api.OK)
	isSums(t, [][]byte{{1, 2, 3}}, 3, [][]byte{{1, 2, 3}, {142, 1, 143}, {244, 245, 1}}, api.OK)
	isSums(t, [][]byte{{1}, {0}}, 2, [][]byte{{142}, {244}}, api.OK)
	isSums(t, [][]byte{{0}, {1}}, 2, [][]byte{{244}, {142}}, api.OK)
	isSums(t, [][]byte{{1, 0, 1}, {0, 1, 1}}, 1, [][]byte{{142, 244, 142 ^ 244}}, api.OK)
	isSums(t, [][]byte{{1, 0, 0}, {0, 1, 0}, {0, 0, 1}}, 1, [][]byte{{244, 142, 1}}, api.OK)
}

// TestP8_1Dots is rows of many lengths, for every k and m, place by place against Dots on paper.
func TestP8_1Dots(t *testing.T) {
	x := drawn(1)
	for _, p := range pairs() {
		for _, n := range lengths() {
			data := x.rows(p.k, n)
			isSums(t, data, p.m, paperSums(data, p.m), api.OK)
		}
	}
}

// TestP8_1Numbers is one row of all numbers among noughts, so that each factor of each Code meets each number.
func TestP8_1Numbers(t *testing.T) {
	every := make([]byte, 256)
	for i := range every {
		every[i] = byte(i)
	}
	p := paper()
	for k := 1; k <= api.MaxRow; k++ {
		m := api.MaxRow - k
		for j := range k {
			data := noughts(k, 256)
			data[j] = every
			want := make([][]byte, m)
			for i := range want {
				for _, y := range every {
					want[i] = append(want[i], p.times[p.inverse[(k+i)^j]][y])
				}
			}
			isSums(t, data, m, want, api.OK)
		}
	}
}

// noughts are rows of noughts.
func noughts(rows, n int) [][]byte {
	a := make([][]byte, rows)
	for i := range a {
		a[i] = make([]byte, n)
	}
	return a
}

// TestP8_1Edges is k 1, m 0, and k and m together at MaxRow, of one byte and of many; and rows that are all noughts.
func TestP8_1Edges(t *testing.T) {
	x := drawn(2)
	for _, n := range []int{1, 2, 16, 257} {
		for i := range api.MaxRow {
			one, all := x.rows(1, n), x.rows(i+1, n)
			isSums(t, one, i, paperSums(one, i), api.OK)
			isSums(t, all, 0, nil, api.OK)
			isSums(t, all, api.MaxRow-i-1, paperSums(all, api.MaxRow-i-1), api.OK)
		}
		for _, p := range pairs() {
			isSums(t, noughts(p.k, n), p.m, noughts(p.m, n), api.OK)
		}
	}
}

// TestP8_1Places is rows with one number that is not 0, at each place: no place is left out, none is taken for another.
func TestP8_1Places(t *testing.T) {
	x := drawn(3)
	for _, n := range []int{1, 2, 3, 16, 65} {
		for at := range n {
			data, want := noughts(4, n), noughts(3, n)
			j, y := x.below(4), x.some()
			data[j][at] = y
			for i := range want {
				want[i][at] = paper().times[paper().inverse[(4+i)^j]][y]
			}
			isSums(t, data, 3, want, api.OK)
		}
	}
}

// TestP8_1Prefix is that fewer sums of the same data are the first of more.
func TestP8_1Prefix(t *testing.T) {
	x := drawn(4)
	for k := 1; k <= api.MaxRow; k++ {
		data := x.rows(k, 9)
		all, _ := shard.Sums(data, api.MaxRow-k)
		for m := range api.MaxRow - k + 1 {
			isSums(t, data, m, all[:m], api.OK)
		}
	}
}

// TestP8_1Great is rows of very many bytes.
func TestP8_1Great(t *testing.T) {
	x := drawn(5)
	for _, n := range []int{65535, 65536, 65537, 1 << 20} {
		data := x.rows(3, n)
		isSums(t, data, 2, paperSums(data, 2), api.OK)
	}
}

// TestP8_1Same is one row that stands at each place.
func TestP8_1Same(t *testing.T) {
	x := drawn(6)
	for _, p := range pairs() {
		row := x.row(5)
		data := slices.Repeat([][]byte{row}, p.k)
		isSums(t, data, p.m, paperSums(copied(data), p.m), api.OK)
	}
}

// TestP8_1Refused is what Code refuses: no row, too many, m below 0, and k and m together above MaxRow.
func TestP8_1Refused(t *testing.T) {
	x := drawn(7)
	for _, none := range [][][]byte{nil, {}, x.rows(3, 3)[:0]} {
		for _, m := range []int{0, 1, 13, 14, 15, -1, math.MaxInt, math.MinInt} {
			isSums(t, none, m, nil, api.ErrArg)
		}
	}
	for _, p := range refused() {
		if p.k >= 0 && p.k <= 65537 {
			isSums(t, slices.Repeat([][]byte{{1, 2}}, p.k), p.m, nil, api.ErrArg)
		}
	}
	for _, n := range []int{15, 16, 64, 65, 256, 257, 270, 65536 + 1} {
		isSums(t, x.rows(n, 1), 0, nil, api.ErrArg)
	}
}

// TestP8_1Unlike is rows of unlike length, at each place, with what might hide it.
func TestP8_1Unlike(t *testing.T) {
	x := drawn(8)
	for _, p := range pairs() {
		if p.k == 1 {
			continue
		}
		for _, n := range []int{1, 2, 16} {
			for i := range p.k {
				data := x.rows(p.k, n)
				data[i] = append(data[i], 0)
				isSums(t, data, p.m, nil, api.ErrArg)
				data[i] = data[i][:n-1]
				isSums(t, data, p.m, nil, api.ErrArg)
				data[i] = x.row(n + 256)
				isSums(t, data, p.m, nil, api.ErrArg)
			}
		}
	}
	isSums(t, [][]byte{{1}, {1, 2, 3}}, 1, nil, api.ErrArg)
	isSums(t, [][]byte{{1, 2}, {1}, {1, 2}}, 0, nil, api.ErrArg)
	isSums(t, [][]byte{[]byte{1, 2, 3}[:1], {1, 2}}, 2, nil, api.ErrArg)
}

// TestP8_1Empty is rows of which one, some or all are empty: none is taken for a lost one.
func TestP8_1Empty(t *testing.T) {
	x := drawn(9)
	for _, p := range pairs() {
		for _, none := range [][]byte{nil, {}, []byte{1, 2, 3}[:0]} {
			isSums(t, slices.Repeat([][]byte{none}, p.k), p.m, nil, api.ErrArg)
			for i := range p.k {
				data := x.rows(p.k, 3)
				data[i] = none
				isSums(t, data, p.m, nil, api.ErrArg)
				data[p.k-1] = none
				isSums(t, data, p.m, nil, api.ErrArg)
			}
		}
	}
}

// TestW1Sums is Sums of whatever is drawn: each call ends, and answers as on paper.
func TestW1Sums(t *testing.T) {
	x := drawn(10)
	for range 20000 {
		data, m := x.rows(x.below(17), x.below(4)), x.below(18)-2
		if x.below(3) == 0 && len(data) > 0 {
			data[x.below(len(data))] = x.row(x.below(4))
		}
		if m < 0 || len(data) == 0 || len(data)+m > api.MaxRow || !alike(data) {
			isSums(t, data, m, nil, api.ErrArg)
			continue
		}
		isSums(t, data, m, paperSums(data, m), api.OK)
	}
}

// alike asks whether rows are all of one length, and not empty.
func alike(rows [][]byte) bool {
	for _, row := range rows {
		if len(row) == 0 || len(row) != len(rows[0]) {
			return false
		}
	}
	return true
}

// TestW2Twins asks whether the same call answers the same, whatever was called between.
func TestW2Twins(t *testing.T) {
	one, two := drawn(11), drawn(11)
	for range 500 {
		p, q := one.pair(), two.pair()
		a, b := one.fitting(p, 5), two.fitting(q, 5)
		lost := one.lost(p.k+p.m, one.below(p.m+1))
		first, e := shard.Mend(without(a, lost), p.k, p.m)
		second, f := shard.Mend(without(b, two.lost(q.k+q.m, two.below(q.m+1))), q.k, q.m)
		if !same(first, second) || e != f || bytes.Compare(a[0], b[0]) != 0 {
			t.Fatalf("Mend of the same, %d, %d: %v, %d and %v, %d", p.k, p.m, first, e, second, f)
		}
		sums, e := shard.Sums(a[:p.k], p.m)
		isSums(t, b[:p.k], p.m, sums, e)
		a[one.below(p.k+p.m)][4] ^= 1
		b[two.below(p.k+p.m)][4] ^= 1
		wrong, e := shard.Wrong(a, p.k, p.m)
		isWrong(t, b, p, wrong, e)
		right, e := shard.Right(a, p.k, p.m)
		isRight(t, b, p, right, e)
	}
}
