package matrix_test

import (
	"bytes"
	"slices"
	"sync"
	"testing"

	"garner/api"
	"garner/matrix"
)

// modulus is x^8 + x^4 + x^3 + x^2 + 1, the digit i as the factor of x^i.
const modulus = 1<<8 | 1<<4 | 1<<3 | 1<<2 | 1

// product is a product of two numbers on paper: all terms, then what the division by the modulus leaves, from the highest term down.
func product(a, b byte) byte {
	all := 0
	for i := range 8 {
		if b>>i&1 == 1 {
			all ^= int(a) << i
		}
	}
	for i := 14; i >= 8; i-- {
		if all>>i&1 == 1 {
			all ^= modulus << (i - 8)
		}
	}
	return byte(all)
}

// table is all products, at their two numbers, and each number's inverse.
type table struct {
	times   [256][256]byte
	inverse [256]byte
}

// paper is that table, worked out once.
var paper = sync.OnceValue(func() *table {
	var p table
	for a := range 256 {
		for b := range 256 {
			p.times[a][b] = product(byte(a), byte(b))
			if p.times[a][b] == 1 {
				p.inverse[a] = byte(b)
			}
		}
	}
	return &p
})

// paperMul is Mul of matrices that fit: at each place the sum of the products of a row's and a column's numbers.
func paperMul(a, b [][]byte) [][]byte {
	p := paper()
	l := make([][]byte, len(a))
	for i := range a {
		for j := range b[0] {
			var s byte
			for t := range b {
				s ^= p.times[a[i][t]][b[t][j]]
			}
			l[i] = append(l[i], s)
		}
	}
	return l
}

// paperOne is One.
func paperOne(n int) [][]byte {
	a := noughts(n, n)
	for i := range n {
		a[i][i] = 1
	}
	return a
}

// minor is a matrix without one of its rows and one of its columns.
func minor(a [][]byte, i, j int) [][]byte {
	var l [][]byte
	for at, row := range a {
		if at != i {
			l = append(l, slices.Concat(row[:j], row[j+1:]))
		}
	}
	return l
}

// determinant is that of a matrix as wide as high, spread out by its first row: no sign counts in this field.
func determinant(a [][]byte) byte {
	if len(a) == 0 {
		return 1
	}
	var s byte
	for j, x := range a[0] {
		if x != 0 {
			s ^= paper().times[x][determinant(minor(a, 0, j))]
		}
	}
	return s
}

// paperInvert is Invert by determinants, none where that of the whole is 0. It is for few rows.
func paperInvert(a [][]byte) ([][]byte, api.Errno) {
	p := paper()
	d := determinant(a)
	if d == 0 {
		return nil, api.ErrFlat
	}
	l := noughts(len(a), len(a))
	for i := range a {
		for j := range a {
			l[j][i] = p.times[p.inverse[d]][determinant(minor(a, i, j))]
		}
	}
	return l, api.OK
}

// noughts are rows of noughts.
func noughts(rows, n int) [][]byte {
	a := make([][]byte, rows)
	for i := range a {
		a[i] = make([]byte, n)
	}
	return a
}

// filled are rows of one number.
func filled(rows, n int, x byte) [][]byte {
	a := make([][]byte, rows)
	for i := range a {
		a[i] = bytes.Repeat([]byte{x}, n)
	}
	return a
}

// copied is a matrix in new memory without spare room.
func copied(a [][]byte) [][]byte {
	l := make([][]byte, len(a))
	for i, row := range a {
		l[i] = slices.Clip(slices.Clone(row))
	}
	return l
}

// same asks whether two lists of rows are the same.
func same(a, b [][]byte) bool {
	return slices.EqualFunc(a, b, bytes.Equal)
}

// sizes are numbers of rows, or of numbers in one, that a matrix has.
func sizes() []int {
	return []int{1, 2, 3, 4, 5, 7, 8, 9, 13, 14, 15, 16, 17, 31, 32, 33, 62, 63, 64}
}

// drawn are numbers that look drawn and are the same each time.
type drawn uint64

// next is one of them.
func (x *drawn) next() byte {
	*x = *x*6364136223846793005 + 1442695040888963407
	return byte(*x >> 40)
}

// below is one of them that is below n.
func (x *drawn) below(n int) int {
	return (int(x.next())<<8 | int(x.next())) % n
}

// row is a row of n of them.
func (x *drawn) row(n int) []byte {
	l := make([]byte, n)
	for i := range l {
		l[i] = x.next()
	}
	return l
}

// matrix is one of them.
func (x *drawn) matrix(rows, n int) [][]byte {
	a := make([][]byte, rows)
	for i := range a {
		a[i] = x.row(n)
	}
	return a
}

// order is the numbers 0 to n - 1 in an order that is drawn.
func (x *drawn) order(n int) []int {
	l := make([]int, n)
	for i := range l {
		l[i] = i
		at := x.below(i + 1)
		l[i], l[at] = l[at], l[i]
	}
	return l
}

// picked are rows of a matrix, in that order.
func picked(a [][]byte, order []int) [][]byte {
	l := make([][]byte, len(order))
	for i, at := range order {
		l[i] = slices.Clone(a[at])
	}
	return l
}

// whole is a matrix of n rows that has an inverse: one with numbers from corner to corner and above them, times one with numbers there and below, its rows in an order that is drawn.
func (x *drawn) whole(n int) [][]byte {
	above, below := x.matrix(n, n), x.matrix(n, n)
	for i := range n {
		for j := range n {
			switch {
			case i > j:
				above[i][j] = 0
			case i < j:
				below[i][j] = 0
			default:
				above[i][j] = x.next() | 1
				below[i][j] = x.next() | 128
			}
		}
	}
	return picked(paperMul(above, below), x.order(n))
}

// flat is a matrix of n rows that has no inverse: one of fewer columns times one of fewer rows.
func (x *drawn) flat(n, rank int) [][]byte {
	if rank == 0 {
		return noughts(n, n)
	}
	return paperMul(x.matrix(n, rank), x.matrix(rank, n))
}

// isMul asks for the product.
func isMul(t *testing.T, a, b, want [][]byte, wantE api.Errno) {
	t.Helper()
	if got, e := matrix.Mul(a, b); !same(got, want) || e != wantE {
		t.Fatalf("Mul of %v and %v: %v, %d, not %v, %d", few(a), few(b), few(got), e, few(want), wantE)
	}
}

// isInvert asks for the inverse.
func isInvert(t *testing.T, a, want [][]byte, wantE api.Errno) {
	t.Helper()
	if got, e := matrix.Invert(a); !same(got, want) || e != wantE {
		t.Fatalf("Invert of %v: %v, %d, not %v, %d", few(a), few(got), e, few(want), wantE)
	}
}

// isCode asks for a Code.
func isCode(t *testing.T, k, m int, want [][]byte, wantE api.Errno) {
	t.Helper()
	if got, e := matrix.Code(k, m); !same(got, want) || e != wantE {
		t.Fatalf("Code(%d, %d): %v, %d, not %v, %d", k, m, got, e, want, wantE)
	}
}

// inverse is that of a matrix that has one: held, either way round, against One on paper.
func inverse(t *testing.T, a [][]byte) [][]byte {
	t.Helper()
	l, e := matrix.Invert(a)
	if e != api.OK || len(l) != len(a) {
		t.Fatalf("Invert of %v: %d rows, %d", few(a), len(l), e)
	}
	for _, row := range l {
		if len(row) != len(a) {
			t.Fatalf("Invert of %v: a row of %d", few(a), len(row))
		}
	}
	one := paperOne(len(a))
	if !same(paperMul(a, l), one) || !same(paperMul(l, a), one) {
		t.Fatalf("Invert of %v: %v, and their product is not One", few(a), few(l))
	}
	return l
}

// few are the first rows' first numbers, for what a test tells.
func few(a [][]byte) [][]byte {
	var l [][]byte
	for _, row := range a[:min(6, len(a))] {
		l = append(l, row[:min(8, len(row))])
	}
	return l
}

// TestPaper asks whether the paper itself is right, at what was worked out by hand.
func TestPaper(t *testing.T) {
	for _, x := range []struct{ a, b, want byte }{{2, 128, 29}, {3, 7, 9}, {16, 16, 29}, {128, 128, 19}, {255, 255, 226}, {0, 77, 0}, {1, 77, 77}} {
		if got := paper().times[x.a][x.b]; got != x.want {
			t.Errorf("%d times %d: %d, not %d", x.a, x.b, got, x.want)
		}
	}
	for a, want := range map[byte]byte{1: 1, 2: 142, 3: 244} {
		if got := paper().inverse[a]; got != want {
			t.Errorf("the inverse of %d: %d, not %d", a, got, want)
		}
	}
	if got := determinant([][]byte{{1, 2}, {3, 7}}); got != 7^6 {
		t.Errorf("a determinant of two rows: %d", got)
	}
	if got := determinant([][]byte{{0, 0, 2}, {0, 3, 0}, {128, 0, 0}}); got != paper().times[29][3] {
		t.Errorf("a determinant of three rows: %d", got)
	}
	if got := paperMul([][]byte{{1, 2}}, [][]byte{{7, 1}, {128, 1}}); !same(got, [][]byte{{7 ^ 29, 3}}) {
		t.Errorf("a product: %v", got)
	}
}
