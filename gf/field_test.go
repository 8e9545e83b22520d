package gf_test

import (
	"bytes"
	"testing"

	"garner/api"
	"garner/gf"
)

// sum is Add of rows of like length.
func sum(t *testing.T, a, b []byte) []byte {
	t.Helper()
	l, e := gf.Add(a, b)
	if e != api.OK {
		t.Fatalf("Add of rows of %d and %d: %d", len(a), len(b), e)
	}
	return l
}

// dot is Dot of rows of like length.
func dot(t *testing.T, a, b []byte) byte {
	t.Helper()
	s, e := gf.Dot(a, b)
	if e != api.OK {
		t.Fatalf("Dot of rows of %d and %d: %d", len(a), len(b), e)
	}
	return s
}

// alike asks whether two ways led to the same row.
func alike(t *testing.T, name string, a, b []byte) {
	t.Helper()
	if !bytes.Equal(a, b) {
		t.Fatalf("%s: %d:%x and %d:%x", name, len(a), head(a), len(b), head(b))
	}
}

// TestP6_3Sums is sums of any two numbers turned, of any three joined; 0 with a number is that, a number with itself is 0.
func TestP6_3Sums(t *testing.T) {
	a, b := pairs()
	alike(t, "turned", sum(t, a, b), sum(t, b, a))
	alike(t, "with 0", sum(t, a, make([]byte, len(a))), a)
	alike(t, "with itself", sum(t, a, a), make([]byte, len(a)))
	for _, x := range every() {
		c := bytes.Repeat([]byte{x}, len(a))
		alike(t, "joined", sum(t, sum(t, a, b), c), sum(t, a, sum(t, b, c)))
	}
}

// TestP6_3Turned is products of any two numbers turned.
func TestP6_3Turned(t *testing.T) {
	for _, a := range every() {
		for _, b := range every() {
			isMul(t, a, b, gf.Mul(b, a))
		}
	}
}

// TestP6_3Joined is products of any three numbers joined.
func TestP6_3Joined(t *testing.T) {
	for _, a := range every() {
		for _, b := range every() {
			product := gf.Mul(a, b)
			for _, c := range every() {
				if l, r := gf.Mul(product, c), gf.Mul(a, gf.Mul(b, c)); l != r {
					t.Fatalf("%d, %d, %d: %d and %d", a, b, c, l, r)
				}
			}
		}
	}
}

// TestP6_3Spread is products of any number with the sum of any two: the sums of products.
func TestP6_3Spread(t *testing.T) {
	a, b := pairs()
	both := sum(t, a, b)
	for _, c := range every() {
		alike(t, "spread", gf.Scale(both, c), sum(t, gf.Scale(a, c), gf.Scale(b, c)))
	}
}

// TestP6_3SpreadOne is the same for single numbers.
func TestP6_3SpreadOne(t *testing.T) {
	for _, a := range every() {
		for _, b := range every() {
			both := sum(t, []byte{a}, []byte{b})[0]
			for _, c := range every() {
				if l, r := gf.Mul(c, both), gf.Mul(c, a)^gf.Mul(c, b); l != r {
					t.Fatalf("%d times the sum of %d and %d: %d and %d", c, a, b, l, r)
				}
			}
		}
	}
}

// TestP6_3Inverse is that each number but 0 has its inverse, all of them unlike, each the inverse of its own; that of a product is the product of theirs.
func TestP6_3Inverse(t *testing.T) {
	var had [256]bool
	for _, a := range every()[1:] {
		b, e := gf.Inv(a)
		if e != api.OK || b == 0 || had[b] {
			t.Fatalf("Inv(%d): %d, %d", a, b, e)
		}
		had[b] = true
		isMul(t, a, b, 1)
		isMul(t, b, a, 1)
		isInv(t, b, a, api.OK)
		for _, c := range every()[1:] {
			d, _ := gf.Inv(c)
			isInv(t, gf.Mul(a, c), gf.Mul(b, d), api.OK)
		}
	}
}

// TestP6_3Nought is that no product is 0 but of 0, and that a number but 0 takes all numbers to all numbers.
func TestP6_3Nought(t *testing.T) {
	for _, a := range every()[1:] {
		var had [256]bool
		for _, b := range every() {
			p := gf.Mul(a, b)
			if had[p] || (p == 0) != (b == 0) {
				t.Fatalf("Mul(%d, %d): %d", a, b, p)
			}
			had[p] = true
		}
	}
}

// TestP6_3Pow is the power 255 of each number: 1, but of 0.
func TestP6_3Pow(t *testing.T) {
	for _, a := range every()[1:] {
		isPow(t, a, 255, 1)
	}
	isPow(t, 0, 255, 0)
}

// TestP6_3Powers is powers of each number but 0: of a sum of exponents, of a product of them, of a product of numbers, of the inverse.
func TestP6_3Powers(t *testing.T) {
	l := []int{-511, -256, -255, -254, -128, -3, -2, -1, 0, 1, 2, 3, 127, 254, 255, 256, 510}
	for _, a := range every()[1:] {
		inverse, _ := gf.Inv(a)
		for _, n := range l {
			isPow(t, inverse, n, gf.Pow(a, -n))
			isPow(t, gf.Mul(a, 3), n, gf.Mul(gf.Pow(a, n), gf.Pow(3, n)))
			for _, m := range l {
				isPow(t, a, n+m, gf.Mul(gf.Pow(a, n), gf.Pow(a, m)))
				isPow(t, a, n*m, gf.Pow(gf.Pow(a, n), m))
			}
		}
	}
}

// TestP6_3Round is that the powers of 2 are all numbers but 0, each one once.
func TestP6_3Round(t *testing.T) {
	var had [256]bool
	for n := range 255 {
		p := gf.Pow(2, n)
		if p == 0 || had[p] {
			t.Fatalf("Pow(2, %d): %d", n, p)
		}
		had[p] = true
	}
}

// TestP6_3Rows is the same laws for rows: Dot turned, with a sum, with a row that is scaled; Scale twice.
func TestP6_3Rows(t *testing.T) {
	x := drawn(7)
	for _, n := range lengths() {
		a, b, c := x.row(n), x.row(n), x.row(n)
		u, v := x.next(), x.next()
		isDot(t, a, b, dot(t, b, a), api.OK)
		isDot(t, sum(t, a, b), c, dot(t, a, c)^dot(t, b, c), api.OK)
		isDot(t, gf.Scale(a, u), b, gf.Mul(u, dot(t, a, b)), api.OK)
		isScale(t, gf.Scale(a, u), v, gf.Scale(a, gf.Mul(u, v)))
		isScale(t, sum(t, a, b), u, sum(t, gf.Scale(a, u), gf.Scale(b, u)))
		isScale(t, a, u^v, sum(t, gf.Scale(a, u), gf.Scale(a, v)))
	}
	for _, u := range every()[1:] {
		back, _ := gf.Inv(u)
		isScale(t, gf.Scale(every(), u), back, every())
	}
}
