package gf_test

import (
	"slices"
	"sync"
	"testing"
)

// poly is a polynomial over 0 and 1 on paper: at the place i stands the factor of x^i. No product of two of degree 7 goes beyond x^14.
type poly [15]int

// modulus are the powers of x that the product is taken modulo of.
var modulus = []int{8, 4, 3, 2, 0}

// polyOf is a number's polynomial, digit by digit.
func polyOf(v byte) poly {
	var p poly
	for i, left := 0, int(v); left > 0; i, left = i+1, left/2 {
		p[i] = left % 2
	}
	return p
}

// number is the way back.
func (p poly) number() byte {
	v := 0
	for i := 7; i >= 0; i-- {
		v = 2*v + p[i]
	}
	return byte(v)
}

// plus is the sum, place by place.
func (p poly) plus(q poly) poly {
	for i := range p {
		p[i] = (p[i] + q[i]) % 2
	}
	return p
}

// times is the product, each term with each one.
func (p poly) times(q poly) poly {
	var r poly
	for i := range 8 {
		for j := range 8 {
			r[i+j] = (r[i+j] + p[i]*q[j]) % 2
		}
	}
	return r
}

// rest is what a division by the modulus leaves, from the highest term down.
func (p poly) rest() poly {
	for i := 14; i >= 8; i-- {
		if p[i] == 0 {
			continue
		}
		for _, at := range modulus {
			p[i-8+at] = (p[i-8+at] + 1) % 2
		}
	}
	return p
}

// products are all products on paper, at their two numbers.
var products = sync.OnceValue(func() *[256][256]byte {
	var all [256][256]byte
	for a := range 256 {
		for b := range 256 {
			all[a][b] = polyOf(byte(a)).times(polyOf(byte(b))).rest().number()
		}
	}
	return &all
})

// paperMul is Mul.
func paperMul(a, b byte) byte {
	return products()[a][b]
}

// paperAdd is the sum of two numbers.
func paperAdd(a, b byte) byte {
	return polyOf(a).plus(polyOf(b)).number()
}

// paperInv are all numbers whose product with one is 1.
func paperInv(a byte) []byte {
	var l []byte
	for _, b := range every() {
		if paperMul(a, b) == 1 {
			l = append(l, b)
		}
	}
	return l
}

// round are the powers of a number but 0, from 1 on, up to where they begin anew.
func round(a byte) []byte {
	l := []byte{1}
	for p := a; p != 1; p = paperMul(p, a) {
		l = append(l, p)
	}
	return l
}

// paperPow is Pow.
func paperPow(a byte, n int) byte {
	if n == 0 {
		return 1
	}
	if a == 0 {
		return 0
	}
	if n > 0 {
		l := round(a)
		return l[n%len(l)]
	}
	// One step is set apart: minus the least int is no int.
	b := paperInv(a)[0]
	l := round(b)
	return paperMul(l[-(n+1)%len(l)], b)
}

// paperDot is Dot of rows of like length.
func paperDot(a, b []byte) byte {
	var s byte
	for i := range a {
		s = paperAdd(s, paperMul(a[i], b[i]))
	}
	return s
}

// paperScale is Scale.
func paperScale(a []byte, c byte) []byte {
	var l []byte
	for _, x := range a {
		l = append(l, paperMul(x, c))
	}
	return l
}

// paperSum is Add of rows of like length.
func paperSum(a, b []byte) []byte {
	var l []byte
	for i := range a {
		l = append(l, paperAdd(a[i], b[i]))
	}
	return l
}

// every are all numbers.
func every() []byte {
	l := make([]byte, 256)
	for i := range l {
		l[i] = byte(i)
	}
	return l
}

// pairs are all pairs of numbers as two rows, the pair i at their place i.
func pairs() ([]byte, []byte) {
	var a []byte
	for _, x := range every() {
		a = append(a, slices.Repeat([]byte{x}, 256)...)
	}
	return a, slices.Repeat(every(), 256)
}

// lengths are those of rows of no number, of one, of many, around powers of 2.
func lengths() []int {
	return []int{0, 1, 2, 3, 4, 5, 7, 8, 9, 15, 16, 17, 31, 32, 33, 63, 64, 65, 100, 127, 128, 129, 255, 256, 257, 511, 512, 1000, 4095, 4096, 65537}
}

// drawn are numbers that look drawn and are the same each time.
type drawn uint64

// next is one of them.
func (x *drawn) next() byte {
	*x = *x*6364136223846793005 + 1442695040888963407
	return byte(*x >> 40)
}

// row is a row of n of them.
func (x *drawn) row(n int) []byte {
	l := make([]byte, n)
	for i := range l {
		l[i] = x.next()
	}
	return l
}

// TestPaper asks whether the paper itself is right, at products and sums that were worked out by hand.
func TestPaper(t *testing.T) {
	for _, x := range []struct{ a, b, product, sum byte }{
		{2, 128, 29, 130}, // x times x^7 is x^8
		{3, 7, 9, 4},
		{16, 16, 29, 0},
		{4, 128, 58, 132},
		{128, 128, 19, 0},
		{255, 255, 226, 0},
		{2, 142, 1, 140},
		{0, 77, 0, 77},
		{1, 77, 77, 76},
	} {
		if got := paperMul(x.a, x.b); got != x.product {
			t.Errorf("%d times %d: %d, not %d", x.a, x.b, got, x.product)
		}
		if got := paperAdd(x.a, x.b); got != x.sum {
			t.Errorf("%d and %d: %d, not %d", x.a, x.b, got, x.sum)
		}
	}
}
