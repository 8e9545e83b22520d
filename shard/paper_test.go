package shard_test

import (
	"bytes"
	"math"
	"slices"
	"sync"
	"testing"

	"garner/api"
	"garner/shard"
)

// modulus is x^8 + x^4 + x^3 + x^2 + 1, the digit i as the factor of x^i.
const modulus = 1<<8 | 1<<4 | 1<<3 | 1<<2 | 1

// product is a product of two numbers on paper: all terms, then what the division by the modulus leaves, from the highest term down.
func product(a, b byte) byte {
	all := 0
	for i := range 8 {
		if b>>i&1 == 1 {
			all ^= int(a) << i
		}
	}
	for i := 14; i >= 8; i-- {
		if all>>i&1 == 1 {
			all ^= modulus << (i - 8)
		}
	}
	return byte(all)
}

// table is all products, at their two numbers, and each number's inverse.
type table struct {
	times   [256][256]byte
	inverse [256]byte
}

// paper is that table, worked out once.
var paper = sync.OnceValue(func() *table {
	var p table
	for a := range 256 {
		for b := range 256 {
			p.times[a][b] = product(byte(a), byte(b))
			if p.times[a][b] == 1 {
				p.inverse[a] = byte(b)
			}
		}
	}
	return &p
})

// paperSum is the number that the row k + i has at a place where the data's rows have these.
func paperSum(data []byte, i int) byte {
	p := paper()
	var s byte
	for j, x := range data {
		s ^= p.times[p.inverse[(len(data)+i)^j]][x]
	}
	return s
}

// columnOf are the numbers of rows at a place.
func columnOf(rows [][]byte, at int) []byte {
	var l []byte
	for _, row := range rows {
		l = append(l, row[at])
	}
	return l
}

// paperSums is Sums of data that it takes.
func paperSums(data [][]byte, m int) [][]byte {
	l := make([][]byte, m)
	for at := range data[0] {
		column := columnOf(data, at)
		for i := range l {
			l[i] = append(l[i], paperSum(column, i))
		}
	}
	return l
}

// fit asks whether the numbers of all rows at one place fit.
func fit(column []byte, k int) bool {
	for i, x := range column[k:] {
		if x != paperSum(column[:k], i) {
			return false
		}
	}
	return true
}

// paperRight is Right of rows of one length of which none is lost.
func paperRight(rows [][]byte, k int) bool {
	for at := range rows[0] {
		if !fit(columnOf(rows, at), k) {
			return false
		}
	}
	return true
}

// exchanged asks whether some number makes the numbers at one place fit, if it stands in that of the row i.
func exchanged(column []byte, k, i int) bool {
	column = slices.Clone(column)
	for x := range 256 {
		column[i] = byte(x)
		if fit(column, k) {
			return true
		}
	}
	return false
}

// paperWrong is Wrong of rows of one length of which none is lost: each row is exchanged, place by place, for all that might stand there.
func paperWrong(rows [][]byte, k int) (int, api.Errno) {
	if paperRight(rows, k) {
		return -1, api.OK
	}
	for i := range rows {
		good := true
		for at := range rows[0] {
			good = good && exchanged(columnOf(rows, at), k, i)
		}
		if good {
			return i, api.OK
		}
	}
	return 0, api.ErrLost
}

// pair is a k and m that Code takes.
type pair struct{ k, m int }

// pairs are all of them.
func pairs() []pair {
	var l []pair
	for k := 1; k <= api.MaxRow; k++ {
		for m := 0; k+m <= api.MaxRow; m++ {
			l = append(l, pair{k, m})
		}
	}
	return l
}

// refused are all sorts of k and m that Code does not take.
func refused() []pair {
	below := []int{-1, -2, -14, -15, -256, -65536, math.MinInt32, math.MinInt + 14, math.MinInt + 1, math.MinInt}
	above := []int{15, 16, 64, 65, 128, 256, 257, 65536, 65537, math.MaxInt32, math.MaxInt - 14, math.MaxInt - 1, math.MaxInt}
	var l []pair
	for _, n := range slices.Concat(below, []int{0, 1, 2, 3, 7, 13, 14}, above) {
		for _, x := range append(below, 0) {
			l = append(l, pair{x, n})
		}
		for _, x := range below {
			l = append(l, pair{n, x})
		}
		for _, x := range above {
			l = append(l, pair{x, n}, pair{n, x})
		}
	}
	for k := range api.MaxRow + 1 {
		l = append(l, pair{k, api.MaxRow - k + 1}, pair{api.MaxRow, k + 1}, pair{k + 1, api.MaxRow}, pair{k + 2, -k - 1})
	}
	return l
}

// lengths are those of rows: one byte, many, around powers of 2.
func lengths() []int {
	return []int{1, 2, 3, 7, 8, 9, 15, 16, 17, 63, 64, 65, 100, 255, 256, 257, 1000}
}

// sets are all sets of some of the numbers 0 to n - 1, each one as they rise.
func sets(n, some int) [][]int {
	var l [][]int
	for set := range 1 << n {
		var one []int
		for i := range n {
			if set>>i&1 == 1 {
				one = append(one, i)
			}
		}
		if len(one) == some {
			l = append(l, one)
		}
	}
	return l
}

// copied are rows in new memory without spare room.
func copied(a [][]byte) [][]byte {
	l := make([][]byte, len(a))
	for i, row := range a {
		l[i] = slices.Clip(slices.Clone(row))
	}
	return l
}

// without are rows, copied, of which some are lost: nil, empty, or empty with room behind, in turn.
func without(rows [][]byte, lost []int) [][]byte {
	l := copied(rows)
	for n, i := range lost {
		switch n % 3 {
		case 0:
			l[i] = nil
		case 1:
			l[i] = []byte{}
		default:
			l[i] = l[i][:0]
		}
	}
	return l
}

// same asks whether two lists of rows are the same.
func same(a, b [][]byte) bool {
	return slices.EqualFunc(a, b, bytes.Equal)
}

// few are the first numbers of rows, for what a test tells.
func few(a [][]byte) [][]byte {
	var l [][]byte
	for _, row := range a[:min(14, len(a))] {
		l = append(l, row[:min(8, len(row))])
	}
	return l
}

// drawn are numbers that look drawn and are the same each time.
type drawn uint64

// next is one of them.
func (x *drawn) next() byte {
	*x = *x*6364136223846793005 + 1442695040888963407
	return byte(*x >> 40)
}

// below is one of them that is below n.
func (x *drawn) below(n int) int {
	return (int(x.next())<<8 | int(x.next())) % n
}

// some is one of them that is not 0.
func (x *drawn) some() byte {
	return byte(1 + x.below(255))
}

// row is a row of n of them.
func (x *drawn) row(n int) []byte {
	l := make([]byte, n)
	for i := range l {
		l[i] = x.next()
	}
	return l
}

// rows are some of them.
func (x *drawn) rows(rows, n int) [][]byte {
	a := make([][]byte, rows)
	for i := range a {
		a[i] = x.row(n)
	}
	return a
}

// fitting are k + m rows of n numbers that fit.
func (x *drawn) fitting(p pair, n int) [][]byte {
	data := x.rows(p.k, n)
	return append(data, paperSums(data, p.m)...)
}

// pair is one of all pairs.
func (x *drawn) pair() pair {
	l := pairs()
	return l[x.below(len(l))]
}

// lost are n of the numbers 0 to all - 1, as they rise.
func (x *drawn) lost(all, n int) []int {
	l := make([]int, all)
	for i := range l {
		l[i] = i
		at := x.below(i + 1)
		l[i], l[at] = l[at], l[i]
	}
	return slices.Sorted(slices.Values(l[:n]))
}

// isSums asks for the sums.
func isSums(t *testing.T, data [][]byte, m int, want [][]byte, wantE api.Errno) {
	t.Helper()
	if got, e := shard.Sums(data, m); !same(got, want) || e != wantE || e != api.OK && got != nil {
		t.Fatalf("Sums of %d rows %v, %d: %v, %d, not %v, %d", len(data), few(data), m, few(got), e, few(want), wantE)
	}
}

// isMend asks for all rows.
func isMend(t *testing.T, rows [][]byte, p pair, want [][]byte, wantE api.Errno) {
	t.Helper()
	if got, e := shard.Mend(rows, p.k, p.m); !same(got, want) || e != wantE || e != api.OK && got != nil {
		t.Fatalf("Mend of %v, %d, %d: %v, %d, not %v, %d", few(rows), p.k, p.m, few(got), e, few(want), wantE)
	}
}

// mends asks for what the words say of rows of which k at least are not lost: the first k of these stay, and all fit. There is but one answer of which this holds.
func mends(t *testing.T, rows [][]byte, p pair) [][]byte {
	t.Helper()
	got, e := shard.Mend(rows, p.k, p.m)
	if e != api.OK || len(got) != p.k+p.m {
		t.Fatalf("Mend of %v, %d, %d: %d rows, %d", few(rows), p.k, p.m, len(got), e)
	}
	n, stay := 0, 0
	for i, row := range rows {
		if len(row) > 0 && stay < p.k {
			stay++
			n = len(row)
			if !bytes.Equal(got[i], row) {
				t.Fatalf("Mend of %v, %d, %d: the row %d does not stay: %v", few(rows), p.k, p.m, i, few(got))
			}
		}
	}
	for i, row := range got {
		if len(row) != n {
			t.Fatalf("Mend of %v, %d, %d: the row %d has %d bytes", few(rows), p.k, p.m, i, len(row))
		}
	}
	if !paperRight(got, p.k) {
		t.Fatalf("Mend of %v, %d, %d: %v, which do not fit", few(rows), p.k, p.m, few(got))
	}
	return got
}

// isRight asks whether rows fit.
func isRight(t *testing.T, rows [][]byte, p pair, want bool, wantE api.Errno) {
	t.Helper()
	if got, e := shard.Right(rows, p.k, p.m); got != want || e != wantE {
		t.Fatalf("Right of %v, %d, %d: %t, %d, not %t, %d", few(rows), p.k, p.m, got, e, want, wantE)
	}
}

// isWrong asks which row does not fit.
func isWrong(t *testing.T, rows [][]byte, p pair, want int, wantE api.Errno) {
	t.Helper()
	if got, e := shard.Wrong(rows, p.k, p.m); got != want || e != wantE {
		t.Fatalf("Wrong of %v, %d, %d: %d, %d, not %d, %d", few(rows), p.k, p.m, got, e, want, wantE)
	}
}

// isRefused asks Mend, Right and Wrong for one error.
func isRefused(t *testing.T, rows [][]byte, p pair, wantE api.Errno) {
	t.Helper()
	isMend(t, rows, p, nil, wantE)
	isRight(t, rows, p, false, wantE)
	isWrong(t, rows, p, 0, wantE)
}

// TestPaper asks whether the paper itself is right, at what was worked out by hand.
func TestPaper(t *testing.T) {
	for _, x := range []struct{ a, b, want byte }{{2, 128, 29}, {3, 7, 9}, {16, 16, 29}, {128, 128, 19}, {255, 255, 226}, {0, 77, 0}, {244, 2, 245}} {
		if got := paper().times[x.a][x.b]; got != x.want {
			t.Errorf("%d times %d: %d, not %d", x.a, x.b, got, x.want)
		}
	}
	for a, want := range map[byte]byte{1: 1, 2: 142, 3: 244} {
		if got := paper().inverse[a]; got != want {
			t.Errorf("the inverse of %d: %d, not %d", a, got, want)
		}
	}
	if got := paperSums([][]byte{{1, 0}, {2, 1}}, 2); !same(got, [][]byte{{123, 244}, {244 ^ 1, 142}}) {
		t.Errorf("sums of two rows: %v", got)
	}
	rows := [][]byte{{1}, {2}, {123}, {245}}
	if !paperRight(rows, 2) || !paperRight(rows[:3], 2) || paperRight([][]byte{{1}, {2}, {122}}, 2) {
		t.Error("which rows fit")
	}
	for i := range rows {
		changed := copied(rows)
		changed[i][0] ^= 7
		if got, e := paperWrong(changed, 2); got != i || e != api.OK {
			t.Errorf("the row %d was changed: %d, %d", i, got, e)
		}
	}
	if n := len(pairs()); n != 105 {
		t.Errorf("%d pairs of k and m", n)
	}
}
