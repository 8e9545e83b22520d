package gf_test

import (
	"bytes"
	"math"
	"slices"
	"testing"

	"garner/api"
	"garner/gf"
)

// head is a row's beginning, for what a test tells.
func head(l []byte) []byte {
	return l[:min(12, len(l))]
}

// isDot asks for the sum of the products, either way round.
func isDot(t *testing.T, a, b []byte, want byte, wantE api.Errno) {
	t.Helper()
	if got, e := gf.Dot(a, b); got != want || e != wantE {
		t.Fatalf("Dot of %d:%x and %d:%x: %d, %d, not %d, %d", len(a), head(a), len(b), head(b), got, e, want, wantE)
	}
	if got, e := gf.Dot(b, a); got != want || e != wantE {
		t.Fatalf("Dot of %d:%x and %d:%x: %d, %d, not %d, %d", len(b), head(b), len(a), head(a), got, e, want, wantE)
	}
}

// isScale asks for a row times a number.
func isScale(t *testing.T, a []byte, c byte, want []byte) {
	t.Helper()
	if got := gf.Scale(a, c); !bytes.Equal(got, want) {
		t.Fatalf("Scale of %d:%x by %d: %d:%x, not %d:%x", len(a), head(a), c, len(got), head(got), len(want), head(want))
	}
}

// isAdd asks for the sum of two rows, either way round.
func isAdd(t *testing.T, a, b, want []byte, wantE api.Errno) {
	t.Helper()
	if got, e := gf.Add(a, b); !bytes.Equal(got, want) || e != wantE {
		t.Fatalf("Add of %d:%x and %d:%x: %d:%x, %d, not %d:%x, %d", len(a), head(a), len(b), head(b), len(got), head(got), e, len(want), head(want), wantE)
	}
	if got, e := gf.Add(b, a); !bytes.Equal(got, want) || e != wantE {
		t.Fatalf("Add of %d:%x and %d:%x: %d:%x, %d, not %d:%x, %d", len(b), head(b), len(a), head(a), len(got), head(got), e, len(want), head(want), wantE)
	}
}

// TestP6_2None is rows of no number, nil ones and empty ones: nothing is refused.
func TestP6_2None(t *testing.T) {
	empty := []byte{1, 2, 3}[:0]
	for _, a := range [][]byte{nil, {}, empty} {
		for _, b := range [][]byte{nil, {}, empty} {
			isDot(t, a, b, 0, api.OK)
			isAdd(t, a, b, nil, api.OK)
		}
		for _, c := range every() {
			isScale(t, a, c, nil)
		}
	}
}

// TestP6_2One is rows of one number, all of them.
func TestP6_2One(t *testing.T) {
	for _, a := range every() {
		for _, b := range every() {
			isDot(t, []byte{a}, []byte{b}, paperMul(a, b), api.OK)
			isScale(t, []byte{a}, b, []byte{paperMul(a, b)})
			isAdd(t, []byte{a}, []byte{b}, []byte{paperAdd(a, b)}, api.OK)
		}
	}
}

// TestP6_2Hand is rows whose answers were worked out by hand.
func TestP6_2Hand(t *testing.T) {
	isDot(t, []byte{2, 3}, []byte{128, 7}, 29^9, api.OK)
	isDot(t, []byte{142, 244}, []byte{1, 2}, 123, api.OK)
	isDot(t, []byte{2, 2}, []byte{128, 128}, 0, api.OK)
	isDot(t, []byte{1, 1, 1, 1}, []byte{1, 2, 4, 8}, 15, api.OK)
	isDot(t, []byte{0, 0, 1, 0}, []byte{9, 8, 7, 6}, 7, api.OK)
	isScale(t, []byte{0, 1, 2, 128, 142}, 2, []byte{0, 2, 4, 29, 1})
	isScale(t, []byte{3, 7}, 7, []byte{9, 21})
	isAdd(t, []byte{1, 2, 3, 0xff, 0}, []byte{1, 1, 4, 0x0f, 7}, []byte{0, 3, 7, 0xf0, 7}, api.OK)
}

// TestP6_2Rows is rows of many lengths against the paper.
func TestP6_2Rows(t *testing.T) {
	x := drawn(1)
	for _, n := range lengths() {
		for range 3 {
			a, b := x.row(n), x.row(n)
			isDot(t, a, b, paperDot(a, b), api.OK)
			isAdd(t, a, b, paperSum(a, b), api.OK)
			c := x.next()
			isScale(t, a, c, paperScale(a, c))
		}
	}
}

// TestP6_2Every is the row of all pairs of numbers: each one at its own place.
func TestP6_2Every(t *testing.T) {
	a, b := pairs()
	isDot(t, a, b, paperDot(a, b), api.OK)
	isAdd(t, a, b, paperSum(a, b), api.OK)
	for _, c := range every() {
		isScale(t, every(), c, paperScale(every(), c))
	}
}

// TestP6_2ScaleEdges is Scale by 0 and by 1.
func TestP6_2ScaleEdges(t *testing.T) {
	x := drawn(2)
	for _, n := range lengths() {
		a := x.row(n)
		isScale(t, a, 0, make([]byte, n))
		isScale(t, a, 1, a)
		isScale(t, make([]byte, n), x.next(), make([]byte, n))
	}
}

// TestP6_2Place is rows with one number that is not 0, at each place: no place is left out, none is taken for another.
func TestP6_2Place(t *testing.T) {
	x := drawn(3)
	for _, n := range []int{1, 2, 3, 8, 9, 64, 65, 257} {
		a := x.row(n)
		for i := range n {
			b, want := make([]byte, n), slices.Clone(a)
			b[i] = x.next() | 1
			want[i] = paperAdd(want[i], b[i])
			isDot(t, a, b, paperMul(a[i], b[i]), api.OK)
			isAdd(t, a, b, want, api.OK)
			scaled := make([]byte, n)
			scaled[i] = paperMul(b[i], 7)
			isScale(t, b, 7, scaled)
		}
	}
}

// TestP6_2Same is one row handed in twice, and two that lie in one another's memory.
func TestP6_2Same(t *testing.T) {
	x := drawn(4)
	for _, n := range lengths() {
		a := x.row(n)
		isDot(t, a, a, paperDot(a, slices.Clone(a)), api.OK)
		isAdd(t, a, a, make([]byte, n), api.OK)
		for shift := range min(4, n) {
			l, r := a[:n-shift], a[shift:]
			isDot(t, l, r, paperDot(slices.Clone(l), slices.Clone(r)), api.OK)
			isAdd(t, l, r, paperSum(slices.Clone(l), slices.Clone(r)), api.OK)
		}
	}
}

// TestP6_2Great is rows of more numbers than any matrix has.
func TestP6_2Great(t *testing.T) {
	const n = 1 << 22
	a, b := slices.Repeat([]byte{2, 3, 142, 0}, n/4), slices.Repeat([]byte{128, 7, 2, 9}, n/4)
	isDot(t, a, b, 0, api.OK)
	a, b = append(a, 2), append(b, 128)
	isDot(t, a, b, 29, api.OK)
	isAdd(t, a, b, append(slices.Repeat([]byte{130, 4, 140, 9}, n/4), 130), api.OK)
	isScale(t, a, 2, append(slices.Repeat([]byte{4, 6, 1, 0}, n/4), 4))
}

// TestP6_2Unlike is rows of unlike length, with what might hide it: a common beginning, zeroes at the end, lengths that end in the same digits, room behind the shorter one.
func TestP6_2Unlike(t *testing.T) {
	whole := slices.Repeat([]byte{1, 0, 0xff, 0, 7, 142, 0}, 10000)
	zeroes := make([]byte, len(whole))
	l := []int{0, 1, 2, 3, 7, 8, 9, 63, 64, 65, 254, 255, 256, 257, 512, 513, 65535, 65536, 65537}
	for _, n := range l {
		for _, m := range l {
			if n == m {
				continue
			}
			for _, b := range [][]byte{whole[:m], whole[:m:m], zeroes[:m], slices.Clone(whole[:m])} {
				isDot(t, whole[:n], b, 0, api.ErrArg)
				isAdd(t, whole[:n], b, nil, api.ErrArg)
				isDot(t, zeroes[:n:n], b, 0, api.ErrArg)
				isAdd(t, zeroes[:n:n], b, nil, api.ErrArg)
			}
		}
	}
}

// TestP6_2UnlikeNone is a row beside none, nil or empty: it is refused, however short, even if it is all zeroes.
func TestP6_2UnlikeNone(t *testing.T) {
	x := drawn(5)
	for _, none := range [][]byte{nil, {}, []byte{1, 2, 3}[:0]} {
		for _, n := range lengths()[1:] {
			for _, a := range [][]byte{x.row(n), make([]byte, n)} {
				isDot(t, a, none, 0, api.ErrArg)
				isAdd(t, a, none, nil, api.ErrArg)
			}
		}
	}
}

// TestW1Rows is calls with whatever is drawn: each one ends, and answers as on paper.
func TestW1Rows(t *testing.T) {
	x := drawn(6)
	for range 3000 {
		a, b, c := x.row(int(x.next())%9), x.row(int(x.next())%9), x.next()
		isScale(t, a, c, paperScale(a, c))
		n := (int(x.next()) - 128) * (math.MaxInt >> (x.next() & 63))
		isPow(t, c, n, paperPow(c, n))
		if len(a) != len(b) {
			isDot(t, a, b, 0, api.ErrArg)
			isAdd(t, a, b, nil, api.ErrArg)
			continue
		}
		isDot(t, a, b, paperDot(a, b), api.OK)
		isAdd(t, a, b, paperSum(a, b), api.OK)
	}
}
