package matrix_test

import (
	"math"
	"slices"
	"testing"

	"garner/api"
	"garner/matrix"
)

// paperCode is Code of a k and m that it takes.
func paperCode(k, m int) [][]byte {
	l := paperOne(k)
	for i := range m {
		var row []byte
		for j := range k {
			row = append(row, paper().inverse[(k+i)^j])
		}
		l = append(l, row)
	}
	return l
}

// code is Code of a k and m that it takes.
func code(t *testing.T, k, m int) [][]byte {
	t.Helper()
	l, e := matrix.Code(k, m)
	if e != api.OK || len(l) != k+m {
		t.Fatalf("Code(%d, %d): %d rows, %d", k, m, len(l), e)
	}
	return l
}

// TestP7_2Example is the chapter's own.
func TestP7_2Example(t *testing.T) {
	isCode(t, 2, 1, [][]byte{{1, 0}, {0, 1}, {142, 244}}, api.OK)
}

// TestP7_2Hand is codes that were worked out by hand.
func TestP7_2Hand(t *testing.T) {
	isCode(t, 1, 0, [][]byte{{1}}, api.OK)
	isCode(t, 1, 1, [][]byte{{1}, {1}}, api.OK)
	isCode(t, 1, 3, [][]byte{{1}, {1}, {142}, {244}}, api.OK)
	isCode(t, 2, 0, [][]byte{{1, 0}, {0, 1}}, api.OK)
	isCode(t, 2, 2, [][]byte{{1, 0}, {0, 1}, {142, 244}, {244, 142}}, api.OK)
	isCode(t, 3, 1, [][]byte{{1, 0, 0}, {0, 1, 0}, {0, 0, 1}, {244, 142, 1}}, api.OK)
}

// TestP7_2Code is every k and m that are taken: the first rows are One, the others as on paper.
func TestP7_2Code(t *testing.T) {
	taken := 0
	for k := 1; k <= api.MaxRow; k++ {
		one, _ := matrix.One(k)
		for m := 0; k+m <= api.MaxRow; m++ {
			taken++
			isCode(t, k, m, paperCode(k, m), api.OK)
			l := code(t, k, m)
			if !same(l[:k], one) {
				t.Errorf("Code(%d, %d) begins with %v", k, m, l[:k])
			}
			for i, row := range l[k:] {
				for j, y := range row {
					if product(y, byte((k+i)^j)) != 1 {
						t.Errorf("Code(%d, %d): %d in the row %d at %d", k, m, y, k+i, j)
					}
				}
			}
		}
	}
	if taken != 105 {
		t.Errorf("%d pairs of k and m", taken)
	}
}

// TestP7_2Edges is k 1, m 0, and k and m together at MaxRow.
func TestP7_2Edges(t *testing.T) {
	for n := range api.MaxRow {
		isCode(t, 1, n, paperCode(1, n), api.OK)
		isCode(t, n+1, 0, paperOne(n+1), api.OK)
		isCode(t, n+1, api.MaxRow-n-1, paperCode(n+1, api.MaxRow-n-1), api.OK)
	}
}

// TestP7_2None is what Code refuses, beside all that it might take.
func TestP7_2None(t *testing.T) {
	below := []int{-1, -2, -14, -15, -128, -255, -256, -65536, math.MinInt32, math.MinInt + 14, math.MinInt + 1, math.MinInt}
	above := []int{15, 16, 64, 65, 127, 128, 255, 256, 257, 65536, 65537, math.MaxInt32, math.MaxInt - 14, math.MaxInt - 13, math.MaxInt - 1, math.MaxInt}
	all := slices.Concat(below, []int{0, 1, 2, 3, 7, 13, 14}, above)
	for _, n := range all {
		for _, k := range append(below, 0) {
			isCode(t, k, n, nil, api.ErrArg)
		}
		for _, m := range below {
			isCode(t, n, m, nil, api.ErrArg)
		}
		for _, great := range above {
			isCode(t, great, n, nil, api.ErrArg)
			isCode(t, n, great, nil, api.ErrArg)
		}
	}
}

// TestP7_2Above is k and m together above MaxRow, by one and by more, each of them below it or at it.
func TestP7_2Above(t *testing.T) {
	for k := range api.MaxRow + 2 {
		for m := range api.MaxRow + 2 {
			if k+m > api.MaxRow {
				isCode(t, k, m, nil, api.ErrArg)
			}
		}
	}
}

// TestP7_2Sums is k and m whose sum would wrap: to what would be taken, or to a number below 0.
func TestP7_2Sums(t *testing.T) {
	for n := range 20 {
		isCode(t, math.MaxInt-n, math.MaxInt, nil, api.ErrArg)
		isCode(t, math.MaxInt, math.MaxInt-n, nil, api.ErrArg)
		isCode(t, n, math.MaxInt, nil, api.ErrArg)
		isCode(t, math.MaxInt, n, nil, api.ErrArg)
		isCode(t, math.MinInt+n, math.MinInt, nil, api.ErrArg)
		isCode(t, math.MinInt, math.MinInt+n, nil, api.ErrArg)
		isCode(t, math.MaxInt, math.MinInt+n, nil, api.ErrArg)
		isCode(t, math.MinInt+n, math.MaxInt, nil, api.ErrArg)
		isCode(t, n+2, -n-1, nil, api.ErrArg)
	}
}

// choices are all sets of k of the numbers 0 to n - 1, each one in its order.
func choices(n, k int) [][]int {
	var l [][]int
	for set := range 1 << n {
		var one []int
		for i := range n {
			if set>>i&1 == 1 {
				one = append(one, i)
			}
		}
		if len(one) == k {
			l = append(l, one)
		}
	}
	return l
}

// orders are all orders of a list.
func orders(l []int) [][]int {
	if len(l) == 0 {
		return [][]int{nil}
	}
	var all [][]int
	for i := range l {
		for _, o := range orders(slices.Concat(l[:i], l[i+1:])) {
			all = append(all, append([]int{l[i]}, o...))
		}
	}
	return all
}

// TestP7_3Rows is any k rows of every Code, in their order, turned round, and in an order that is drawn: they have an inverse.
func TestP7_3Rows(t *testing.T) {
	x := drawn(22)
	for k := 1; k <= api.MaxRow; k++ {
		for m := 0; k+m <= api.MaxRow; m++ {
			l := code(t, k, m)
			for i, some := range choices(k+m, k) {
				switch i % 3 {
				case 1:
					slices.Reverse(some)
				case 2:
					some = inOrder(some, x.order(k))
				}
				inverse(t, picked(l, some))
			}
		}
	}
}

// inOrder are numbers of a list, in that order.
func inOrder(l, order []int) []int {
	var got []int
	for _, at := range order {
		got = append(got, l[at])
	}
	return got
}

// TestP7_3Orders is any k rows of the Codes of few rows, in each order that there is.
func TestP7_3Orders(t *testing.T) {
	for k := 1; k <= 4; k++ {
		for m := 0; k+m <= 7; m++ {
			l := code(t, k, m)
			for _, some := range choices(k+m, k) {
				for _, order := range orders(some) {
					inverse(t, picked(l, order))
				}
			}
		}
	}
}

// TestP7_3Back is what a Code is for: rows of data times it, of which any k bring the data back.
func TestP7_3Back(t *testing.T) {
	x := drawn(23)
	for k := 1; k <= api.MaxRow; k++ {
		m := api.MaxRow - k
		data := x.matrix(k, 16)
		l := code(t, k, m)
		all, e := matrix.Mul(l, data)
		if e != api.OK || !same(all[:k], data) {
			t.Fatalf("Code(%d, %d) times data: %d", k, m, e)
		}
		for range 20 {
			some := x.order(api.MaxRow)[:k]
			isMul(t, inverse(t, picked(l, some)), picked(all, some), data, api.OK)
		}
	}
}
