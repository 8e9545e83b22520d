package matrix_test

import (
	"slices"
	"testing"

	"garner/api"
	"garner/matrix"
)

// TestP7_1InvertExample is the chapter's own.
func TestP7_1InvertExample(t *testing.T) {
	isInvert(t, [][]byte{{1, 1}, {1, 1}}, nil, api.ErrFlat)
	isInvert(t, [][]byte{{0, 1}, {1, 0}}, [][]byte{{0, 1}, {1, 0}}, api.OK)
}

// TestP7_1InvertHand is inverses that were worked out by hand.
func TestP7_1InvertHand(t *testing.T) {
	isInvert(t, [][]byte{{2}}, [][]byte{{142}}, api.OK)
	isInvert(t, [][]byte{{2, 0}, {0, 3}}, [][]byte{{142, 0}, {0, 244}}, api.OK)
	isInvert(t, [][]byte{{0, 2}, {3, 0}}, [][]byte{{0, 244}, {142, 0}}, api.OK)
	isInvert(t, [][]byte{{1, 7}, {0, 1}}, [][]byte{{1, 7}, {0, 1}}, api.OK)
	isInvert(t, [][]byte{{1, 0}, {9, 1}}, [][]byte{{1, 0}, {9, 1}}, api.OK)
	isInvert(t, [][]byte{{0, 1, 0}, {0, 0, 1}, {1, 0, 0}}, [][]byte{{0, 0, 1}, {1, 0, 0}, {0, 1, 0}}, api.OK)
	isInvert(t, [][]byte{{1, 1, 0}, {0, 1, 1}, {0, 0, 1}}, [][]byte{{1, 1, 1}, {0, 1, 1}, {0, 0, 1}}, api.OK)
	// Of One's first row and the row of sums of Code(2, 1).
	isInvert(t, [][]byte{{1, 0}, {142, 244}}, [][]byte{{1, 0}, {paper().times[142][3], 3}}, api.OK)
}

// TestP7_1InvertOne is matrices of one number, all of them.
func TestP7_1InvertOne(t *testing.T) {
	isInvert(t, [][]byte{{0}}, nil, api.ErrFlat)
	for a := 1; a < 256; a++ {
		isInvert(t, [][]byte{{byte(a)}}, [][]byte{{paper().inverse[a]}}, api.OK)
	}
}

// TestP7_1InvertTwo is all matrices of two rows of numbers up to 15, against the paper.
func TestP7_1InvertTwo(t *testing.T) {
	for all := range 1 << 16 {
		a := [][]byte{{byte(all & 15), byte(all >> 4 & 15)}, {byte(all >> 8 & 15), byte(all >> 12)}}
		want, e := paperInvert(a)
		isInvert(t, a, want, e)
	}
}

// TestP7_1InvertThree is all matrices of three rows of 0 and 1, and of 0, 2 and 3, against the paper: most of them need rows exchanged, or have no inverse.
func TestP7_1InvertThree(t *testing.T) {
	for all := range 19683 {
		a := noughts(3, 3)
		for i, left := 0, all; i < 9; i, left = i+1, left/3 {
			a[i/3][i%3] = []byte{0, 2, 3}[left%3]
		}
		want, e := paperInvert(a)
		isInvert(t, a, want, e)
	}
	for all := range 512 {
		a := noughts(3, 3)
		for i := range 9 {
			a[i/3][i%3] = byte(all >> i & 1)
		}
		want, e := paperInvert(a)
		isInvert(t, a, want, e)
	}
}

// TestP7_1InvertFour is all matrices of four rows of 0 and 1, and drawn ones of up to six rows with many noughts, against the paper.
func TestP7_1InvertFour(t *testing.T) {
	for all := range 1 << 16 {
		a := noughts(4, 4)
		for i := range 16 {
			a[i/4][i%4] = byte(all >> i & 1)
		}
		want, e := paperInvert(a)
		isInvert(t, a, want, e)
	}
	x := drawn(11)
	for range 600 {
		n := 1 + x.below(6)
		a := x.matrix(n, n)
		for i := range n * n {
			if x.below(3) == 0 {
				a[i/n][i%n] = 0
			}
		}
		want, e := paperInvert(a)
		isInvert(t, a, want, e)
	}
}

// TestP7_1InvertSizes is matrices of every size that have an inverse, and the inverse of that: the matrix.
func TestP7_1InvertSizes(t *testing.T) {
	x := drawn(12)
	for n := 1; n <= 64; n++ {
		a := x.whole(n)
		isInvert(t, inverse(t, a), a, api.OK)
		isInvert(t, paperOne(n), paperOne(n), api.OK)
	}
}

// TestP7_1InvertExchanged is One of every size with its rows in another order: exchanged in pairs, turned round, moved by one, drawn.
func TestP7_1InvertExchanged(t *testing.T) {
	x := drawn(13)
	for n := 1; n <= 64; n++ {
		straight := make([]int, n)
		for i := range straight {
			straight[i] = i
		}
		turned := slices.Clone(straight)
		slices.Reverse(turned)
		moved := slices.Concat(straight[1:], straight[:1])
		back := slices.Concat(straight[n-1:], straight[:n-1])
		ends := slices.Clone(straight)
		ends[0], ends[n-1] = ends[n-1], ends[0]
		for _, order := range [][]int{turned, moved, back, ends, x.order(n), x.order(n)} {
			a := picked(paperOne(n), order)
			want := noughts(n, n)
			for i, at := range order {
				want[at][i] = 1
			}
			isInvert(t, a, want, api.OK)
			a = picked(x.whole(n), order)
			inverse(t, a)
		}
	}
}

// TestP7_1InvertLate is matrices of which the row for a place is the last one that can be had for it, so that rows must be exchanged at each place.
func TestP7_1InvertLate(t *testing.T) {
	x := drawn(14)
	for n := 1; n <= 64; n++ {
		a := noughts(n, n)
		for i := range n {
			// Noughts but from the other corner's line on.
			for j := n - 1 - i; j < n; j++ {
				a[i][j] = x.next()
			}
			a[i][n-1-i] |= 1
		}
		inverse(t, a)
		slices.Reverse(a)
		inverse(t, a)
	}
}

// TestP7_1InvertFlat is matrices without an inverse, of every size and of several ranks.
func TestP7_1InvertFlat(t *testing.T) {
	x := drawn(15)
	for n := 1; n <= 64; n++ {
		isInvert(t, noughts(n, n), nil, api.ErrFlat)
		for _, rank := range []int{0, 1, n / 2, n - 2, n - 1} {
			if rank >= 0 && rank < n {
				isInvert(t, x.flat(n, rank), nil, api.ErrFlat)
			}
		}
		if n > 1 {
			isInvert(t, filled(n, n, 1), nil, api.ErrFlat)
			isInvert(t, filled(n, n, 255), nil, api.ErrFlat)
		}
	}
}

// TestP7_1InvertFlatWays is a matrix that has an inverse, spoiled in one way after another at places from its first on: a row or column of noughts, two like ones, one that is another's multiple, one that is a sum of others.
func TestP7_1InvertFlatWays(t *testing.T) {
	x := drawn(16)
	for _, n := range []int{2, 3, 4, 8, 14, 33, 64} {
		a := x.whole(n)
		for i := 0; i < n; i += 1 + n/12 {
			j := (i + 1 + x.below(n-1)) % n
			row := copied(a)
			row[i] = make([]byte, n)
			like := copied(a)
			like[i] = slices.Clone(a[j])
			times := copied(a)
			for at, y := range a[j] {
				times[i][at] = paper().times[y][7]
			}
			column, columns, all := copied(a), copied(a), copied(a)
			clear(all[i])
			for at := range n {
				column[at][i] = 0
				columns[at][i] = a[at][j]
				for other := range n {
					if other != i {
						all[i][at] ^= paper().times[a[other][at]][byte(other+1)]
					}
				}
			}
			for _, b := range [][][]byte{row, like, times, column, columns, all} {
				isInvert(t, b, nil, api.ErrFlat)
			}
		}
		inverse(t, a)
	}
}

// TestP7_1InvertFlatLate is One with a nought in a corner: only the last place tells, or the first.
func TestP7_1InvertFlatLate(t *testing.T) {
	for n := 1; n <= 64; n++ {
		for _, at := range []int{0, n / 2, n - 1} {
			a := paperOne(n)
			a[at][at] = 0
			isInvert(t, a, nil, api.ErrFlat)
			a[at] = slices.Clone(a[(at+1)%n])
			isInvert(t, a, nil, api.ErrFlat)
			a[at][at] = 9
			inverse(t, a)
		}
	}
}

// TestP7_1InvertNone is what is no matrix, also where it would have no inverse.
func TestP7_1InvertNone(t *testing.T) {
	for name, a := range none() {
		if got, e := matrix.Invert(a); got != nil || e != api.ErrArg {
			t.Errorf("Invert of %s: %v, %d", name, few(got), e)
		}
	}
	for _, n := range []int{65, 66, 128, 256, 320} {
		isInvert(t, paperOne(n), nil, api.ErrArg)
		isInvert(t, noughts(n, n), nil, api.ErrArg)
	}
}

// TestP7_1InvertWide is matrices that are not as wide as high: ErrArg, also of noughts.
func TestP7_1InvertWide(t *testing.T) {
	x := drawn(17)
	for _, rows := range sizes() {
		for _, n := range sizes() {
			if rows == n {
				continue
			}
			isInvert(t, x.matrix(rows, n), nil, api.ErrArg)
			isInvert(t, noughts(rows, n), nil, api.ErrArg)
			isInvert(t, filled(rows, n, 1), nil, api.ErrArg)
		}
	}
}

// TestP7_3Inverse is matrices of every size with their inverse, either way round, by Mul: One.
func TestP7_3Inverse(t *testing.T) {
	x := drawn(18)
	for n := 1; n <= 64; n++ {
		one, e := matrix.One(n)
		if e != api.OK {
			t.Fatalf("One(%d): %d", n, e)
		}
		for range 2 {
			a := x.whole(n)
			b, e := matrix.Invert(a)
			if e != api.OK {
				t.Fatalf("Invert of %d rows: %d", n, e)
			}
			isMul(t, a, b, one, api.OK)
			isMul(t, b, a, one, api.OK)
		}
	}
}

// TestP7_3Drawn is drawn matrices of all sizes: nearly all have an inverse, with which they make One; of one that has none, the matrix turned round has none either.
func TestP7_3Drawn(t *testing.T) {
	x := drawn(19)
	had := 0
	for range 150 {
		n := 1 + x.below(64)
		a := x.matrix(n, n)
		b, e := matrix.Invert(a)
		if e == api.ErrFlat {
			isInvert(t, turned(a), nil, api.ErrFlat)
			continue
		}
		had++
		isMul(t, a, b, paperOne(n), api.OK)
		isMul(t, b, a, paperOne(n), api.OK)
	}
	if had < 140 {
		t.Errorf("of 150 matrices %d had an inverse", had)
	}
}

// turned is a matrix whose rows are another's columns.
func turned(a [][]byte) [][]byte {
	l := noughts(len(a[0]), len(a))
	for i, row := range a {
		for j, y := range row {
			l[j][i] = y
		}
	}
	return l
}

// TestP7_3Laws is the inverse of a product and of a matrix that was turned round, and products that are joined.
func TestP7_3Laws(t *testing.T) {
	x := drawn(20)
	for _, n := range sizes() {
		a, b := x.whole(n), x.whole(n)
		both, _ := matrix.Mul(a, b)
		isInvert(t, both, paperMul(inverse(t, b), inverse(t, a)), api.OK)
		isInvert(t, turned(a), turned(inverse(t, a)), api.OK)
		c := x.matrix(n, 3)
		right, _ := matrix.Mul(b, c)
		joined, _ := matrix.Mul(a, right)
		isMul(t, both, c, joined, api.OK)
		back, _ := matrix.Invert(both)
		isMul(t, back, joined, c, api.OK)
	}
}

// TestW1Inverses is Invert of whatever is drawn, rows of unlike length among them: each one ends, and answers as on paper.
func TestW1Inverses(t *testing.T) {
	x := drawn(21)
	for range 5000 {
		n := x.below(5)
		a := x.matrix(n, n)
		if x.below(3) == 0 && n > 0 {
			a[x.below(n)] = x.row(x.below(5))
		}
		if x.below(3) == 0 && n > 1 {
			a[0] = a[1]
		}
		if !fits(a) || len(a[0]) != len(a) {
			isInvert(t, a, nil, api.ErrArg)
			continue
		}
		want, e := paperInvert(a)
		isInvert(t, a, want, e)
	}
}
