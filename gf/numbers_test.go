package gf_test

import (
	"math"
	"slices"
	"testing"

	"garner/api"
	"garner/gf"
)

// isMul asks for a product.
func isMul(t *testing.T, a, b, want byte) {
	t.Helper()
	if got := gf.Mul(a, b); got != want {
		t.Fatalf("Mul(%d, %d): %d, not %d", a, b, got, want)
	}
}

// isInv asks for an inverse and its error.
func isInv(t *testing.T, a, want byte, wantE api.Errno) {
	t.Helper()
	if got, e := gf.Inv(a); got != want || e != wantE {
		t.Fatalf("Inv(%d): %d, %d, not %d, %d", a, got, e, want, wantE)
	}
}

// isPow asks for a power.
func isPow(t *testing.T, a byte, n int, want byte) {
	t.Helper()
	if got := gf.Pow(a, n); got != want {
		t.Fatalf("Pow(%d, %d): %d, not %d", a, n, got, want)
	}
}

// exponents are those at which something might turn: around 0, around the rounds of 255, where digits end, at the ends of the type.
func exponents() []int {
	l := []int{0, math.MinInt, math.MinInt + 1, math.MinInt + 2, math.MinInt + 254, math.MinInt + 255, math.MinInt + 256}
	for _, n := range []int{1, 2, 3, 4, 5, 7, 8, 15, 16, 17, 51, 85, 127, 128, 129, 253, 254, 255, 256, 257, 509, 510, 511, 512, 765, 1<<16 - 1, 1 << 16, 1<<16 + 1, 1 << 30, math.MaxInt32 - 1, math.MaxInt32, math.MaxInt - 255, math.MaxInt - 254, math.MaxInt - 2, math.MaxInt - 1, math.MaxInt} {
		l = append(l, n, -n)
	}
	for n := math.MaxInt; n > 0; n >>= 1 {
		l = append(l, n, -n, n/2+1, -(n/2 + 1))
	}
	return l
}

// TestP6_1Example is the chapter's own.
func TestP6_1Example(t *testing.T) {
	isMul(t, 2, 128, 29)
	isMul(t, 3, 7, 9)
	isInv(t, 2, 142, api.OK)
	isPow(t, 2, 8, 29)
	isPow(t, 2, -1, 142)
}

// TestP6_1Mul is every product of two numbers.
func TestP6_1Mul(t *testing.T) {
	for _, a := range every() {
		for _, b := range every() {
			isMul(t, a, b, paperMul(a, b))
		}
	}
}

// TestP6_1MulEdges is 0 and 1 as either factor.
func TestP6_1MulEdges(t *testing.T) {
	for _, a := range every() {
		isMul(t, a, 0, 0)
		isMul(t, 0, a, 0)
		isMul(t, a, 1, a)
		isMul(t, 1, a, a)
	}
}

// TestP6_1Inv is every inverse: the one number whose product is 1.
func TestP6_1Inv(t *testing.T) {
	for _, a := range every()[1:] {
		l := paperInv(a)
		if len(l) != 1 {
			t.Fatalf("%d has %d inverses on paper", a, len(l))
		}
		isInv(t, a, l[0], api.OK)
	}
	isInv(t, 1, 1, api.OK)
}

// TestP6_1InvNone is Inv of 0: nothing times 0 is 1.
func TestP6_1InvNone(t *testing.T) {
	if l := paperInv(0); len(l) != 0 {
		t.Fatalf("0 has inverses on paper: %v", l)
	}
	isInv(t, 0, 0, api.ErrArg)
}

// TestP6_1Pow is powers of every number by exponents of both signs, step by step from 0 on.
func TestP6_1Pow(t *testing.T) {
	for _, a := range every()[1:] {
		b := paperInv(a)[0]
		up, down := byte(1), byte(1)
		for n := range 1100 {
			isPow(t, a, n, up)
			isPow(t, a, -n, down)
			up, down = paperMul(up, a), paperMul(down, b)
		}
	}
}

// TestP6_1PowEdges is powers of every number by the exponents at which something might turn.
func TestP6_1PowEdges(t *testing.T) {
	for _, n := range exponents() {
		for _, a := range every() {
			isPow(t, a, n, paperPow(a, n))
		}
	}
}

// TestP6_1PowNamed is powers by exponents for which the answer is plain without a paper.
func TestP6_1PowNamed(t *testing.T) {
	for _, a := range every()[1:] {
		inverse, _ := gf.Inv(a)
		square := gf.Mul(a, a)
		for n, want := range map[int]byte{0: 1, 1: a, 2: square, 254: inverse, 255: 1, 256: a, 257: square, -1: inverse, -254: a, -255: 1, -256: inverse} {
			isPow(t, a, n, want)
		}
	}
	for n, want := range map[int]byte{7: 128, 8: 29, 14: 19, 254: 142, 255: 1, 256: 2, -1: 142, -247: 29, -255: 1} {
		isPow(t, 2, n, want)
	}
}

// TestP6_1PowEnds is powers by the greatest and the least int: the greatest one ends in 127 of a round of 255, the least one in minus 128, whatever the width of an int.
func TestP6_1PowEnds(t *testing.T) {
	for _, a := range every()[1:] {
		half := byte(1)
		for range 127 {
			half = paperMul(half, a)
		}
		isPow(t, a, math.MaxInt, half)
		isPow(t, a, math.MinInt, half)
		isPow(t, a, -math.MaxInt, paperMul(half, a))
		isMul(t, gf.Pow(a, math.MaxInt), gf.Pow(a, -math.MaxInt), 1)
	}
}

// TestP6_1PowZero is powers of 0: above 0 and below it 0, at 0 it is 1.
func TestP6_1PowZero(t *testing.T) {
	isPow(t, 0, 0, 1)
	for _, n := range slices.DeleteFunc(exponents(), func(n int) bool { return n == 0 }) {
		isPow(t, 0, n, 0)
	}
	for n := range 600 {
		isPow(t, 0, n+1, 0)
		isPow(t, 0, -n-1, 0)
	}
}

// TestP6_1PowOne is powers of 1, and the power 0 of every number.
func TestP6_1PowOne(t *testing.T) {
	for _, n := range exponents() {
		isPow(t, 1, n, 1)
	}
	for _, a := range every() {
		isPow(t, a, 0, 1)
	}
}
