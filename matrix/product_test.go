package matrix_test

import (
	"math"
	"testing"

	"garner/api"
	"garner/matrix"
)

// none are lists of rows that are no matrix, by their names.
func none() map[string][][]byte {
	x := drawn(1)
	l := map[string][][]byte{
		"nil":                    nil,
		"no row":                 {},
		"no row with room":       filled(3, 3, 1)[:0],
		"a nil row":              {nil},
		"an empty row":           {{}},
		"an empty row with room": {[]byte{1, 2, 3}[:0]},
		"two nil rows":           {nil, nil},
		"64 empty rows":          noughts(64, 0),
		"the first row nil":      {nil, {1, 2}},
		"the last row empty":     {{1, 2}, {}},
		"the first row longer":   {{1, 2, 3}, {1, 2}},
		"the last row longer":    {{1, 2}, {1, 2, 3}},
		"a row between longer":   {{1, 2, 3}, {1, 2, 3, 4}, {1, 2, 3}},
		"a row between shorter":  {{1, 2, 3}, {1, 2}, {1, 2, 3}},
		"as many in all":         {{1}, {1, 2, 3}},
		"unlike, but room":       {[]byte{1, 2, 3, 4}[:2], []byte{1, 2, 3, 4}[:3]},
		"three rows, one nil":    {{1, 0, 0}, {0, 1, 0}, nil},
		"65 rows":                x.matrix(65, 65),
		"65 rows of 1":           x.matrix(65, 1),
		"65 rows of 64":          x.matrix(65, 64),
		"65 rows that are empty": noughts(65, 0),
		"64 rows of 65":          x.matrix(64, 65),
		"1 row of 65":            x.matrix(1, 65),
		"66 rows":                paperOne(66),
		"128 rows":               paperOne(128),
		"256 rows":               noughts(256, 2),
		"257 rows":               filled(257, 1, 1),
		"320 rows of 64":         x.matrix(320, 64),
		"65536 rows":             noughts(65536, 1),
		"65537 rows":             filled(65537, 1, 1),
		"a row of 256":           x.matrix(1, 256),
		"a row of 257":           x.matrix(1, 257),
		"2 rows of 258":          x.matrix(2, 258),
		"a row of 65537":         x.matrix(1, 65537),
		"rows of 2^20":           x.matrix(2, 1<<20),
	}
	for _, n := range []int{2, 3, 63, 64} {
		for name, change := range map[string]func([]byte) []byte{
			"cut":    func(row []byte) []byte { return row[:n-1] },
			"longer": func(row []byte) []byte { return append(row, 0) },
			"nil":    func([]byte) []byte { return nil },
		} {
			for _, at := range []int{0, n / 2, n - 1} {
				a := paperOne(n)
				a[at] = change(a[at])
				l["a row "+name+" at "+string(rune('A'+at))+" of "+string(rune('A'+n))] = a
			}
		}
	}
	return l
}

// TestP7_1Hand is products that were worked out by hand.
func TestP7_1Hand(t *testing.T) {
	isMul(t, [][]byte{{3}}, [][]byte{{7}}, [][]byte{{9}}, api.OK)
	isMul(t, [][]byte{{2, 3}}, [][]byte{{128}, {7}}, [][]byte{{29 ^ 9}}, api.OK)
	isMul(t, [][]byte{{2}, {3}}, [][]byte{{128, 7}}, [][]byte{{29, 14}, {157, 9}}, api.OK)
	isMul(t, [][]byte{{1, 2}, {3, 4}}, [][]byte{{0, 1}, {1, 0}}, [][]byte{{2, 1}, {4, 3}}, api.OK)
	isMul(t, [][]byte{{0, 1}, {1, 0}}, [][]byte{{1, 2}, {3, 4}}, [][]byte{{3, 4}, {1, 2}}, api.OK)
	isMul(t, [][]byte{{1, 1}, {1, 1}}, [][]byte{{1, 1}, {1, 1}}, noughts(2, 2), api.OK)
	isMul(t, [][]byte{{1, 0}, {0, 1}, {142, 244}}, [][]byte{{2, 1}, {3, 0}}, [][]byte{{2, 1}, {3, 0}, {0, 142}}, api.OK)
}

// TestP7_1Mul is products of all sizes that fit, number by number against the paper.
func TestP7_1Mul(t *testing.T) {
	x := drawn(2)
	for _, rows := range sizes() {
		for _, between := range sizes() {
			for _, n := range []int{1, 2, 3, 4, 9, 14, 33, 63, 64} {
				a, b := x.matrix(rows, between), x.matrix(between, n)
				isMul(t, a, b, paperMul(a, b), api.OK)
			}
		}
	}
}

// TestP7_1MulEdges is the least and the greatest sizes, by name.
func TestP7_1MulEdges(t *testing.T) {
	x := drawn(3)
	for _, rows := range []int{1, 64} {
		for _, between := range []int{1, 64} {
			for _, n := range []int{1, 64} {
				a, b := x.matrix(rows, between), x.matrix(between, n)
				isMul(t, a, b, paperMul(a, b), api.OK)
				isMul(t, noughts(rows, between), b, noughts(rows, n), api.OK)
				isMul(t, a, noughts(between, n), noughts(rows, n), api.OK)
				isMul(t, filled(rows, between, 1), filled(between, n, 7), filled(rows, n, 7*byte(between&1)), api.OK)
			}
		}
	}
}

// TestP7_1MulOne is products with One, on either side.
func TestP7_1MulOne(t *testing.T) {
	x := drawn(4)
	for _, rows := range sizes() {
		for _, n := range sizes() {
			a := x.matrix(rows, n)
			isMul(t, paperOne(rows), a, a, api.OK)
			isMul(t, a, paperOne(n), a, api.OK)
		}
	}
}

// TestP7_1MulPlace is products of matrices with one number that is not 0, at each place: no place is taken for another.
func TestP7_1MulPlace(t *testing.T) {
	const rows, between, n = 3, 4, 5
	for i := range rows {
		for s := range between {
			for u := range between {
				for j := range n {
					a, b, want := noughts(rows, between), noughts(between, n), noughts(rows, n)
					a[i][s], b[u][j] = 3, 7
					if s == u {
						want[i][j] = 9
					}
					isMul(t, a, b, want, api.OK)
				}
			}
		}
	}
}

// TestP7_1MulSame is a matrix with itself, and ones whose rows are all one row.
func TestP7_1MulSame(t *testing.T) {
	x := drawn(5)
	for _, n := range sizes() {
		a := x.matrix(n, n)
		isMul(t, a, a, paperMul(a, copied(a)), api.OK)
		row := x.row(n)
		b := make([][]byte, n)
		for i := range b {
			b[i] = row
		}
		isMul(t, b, b, paperMul(copied(b), copied(b)), api.OK)
		isMul(t, a, b, paperMul(a, copied(b)), api.OK)
		isMul(t, b, a, paperMul(copied(b), a), api.OK)
	}
}

// TestP7_1MulNone is what is no matrix, on either side, beside one that might fit.
func TestP7_1MulNone(t *testing.T) {
	x := drawn(6)
	for name, a := range none() {
		l := [][][]byte{{{1}}, {{1, 2}}, {{1}, {2}}, x.matrix(2, 2), x.matrix(3, 3), x.matrix(64, 64), x.matrix(1, 64), x.matrix(64, 1), a}
		if n := len(a); n >= 1 && n <= 64 {
			l = append(l, x.matrix(1, n), x.matrix(n, n))
		}
		if len(a) > 0 {
			if n := len(a[0]); n >= 1 && n <= 64 {
				l = append(l, x.matrix(n, 1), x.matrix(n, n))
			}
		}
		for _, b := range l {
			if got, e := matrix.Mul(a, b); got != nil || e != api.ErrArg {
				t.Errorf("Mul of %s and %d rows: %v, %d", name, len(b), few(got), e)
			}
			if got, e := matrix.Mul(b, a); got != nil || e != api.ErrArg {
				t.Errorf("Mul of %d rows and %s: %v, %d", len(b), name, few(got), e)
			}
		}
	}
}

// TestP7_1MulBothNone is two that are no matrix, of each pair that would fit.
func TestP7_1MulBothNone(t *testing.T) {
	isMul(t, nil, nil, nil, api.ErrArg)
	isMul(t, [][]byte{}, [][]byte{}, nil, api.ErrArg)
	isMul(t, [][]byte{{}}, nil, nil, api.ErrArg)
	isMul(t, [][]byte{{}, {}}, [][]byte{}, nil, api.ErrArg)
	isMul(t, noughts(3, 65), noughts(65, 3), nil, api.ErrArg)
	isMul(t, noughts(65, 65), noughts(65, 65), nil, api.ErrArg)
	isMul(t, noughts(65, 2), noughts(2, 2), nil, api.ErrArg)
	isMul(t, noughts(2, 2), noughts(2, 65), nil, api.ErrArg)
}

// TestP7_1MulUnfit is matrices of which a's rows are not as long as b has rows, whatever else is alike.
func TestP7_1MulUnfit(t *testing.T) {
	x := drawn(7)
	for _, between := range sizes() {
		for _, rows := range sizes() {
			if rows == between {
				continue
			}
			for _, n := range []int{1, 2, between, rows, 64} {
				isMul(t, x.matrix(n, between), x.matrix(rows, n), nil, api.ErrArg)
				isMul(t, x.matrix(rows, between), x.matrix(rows, between), nil, api.ErrArg)
				isMul(t, noughts(n, between), noughts(rows, n), nil, api.ErrArg)
			}
		}
	}
}

// TestP7_1One is One of every number, those that it refuses too.
func TestP7_1One(t *testing.T) {
	for n := 1; n <= 64; n++ {
		if got, e := matrix.One(n); !same(got, paperOne(n)) || e != api.OK {
			t.Errorf("One(%d): %v, %d", n, few(got), e)
		}
	}
	if got, _ := matrix.One(1); !same(got, [][]byte{{1}}) {
		t.Errorf("One(1): %v", got)
	}
	if got, _ := matrix.One(3); !same(got, [][]byte{{1, 0, 0}, {0, 1, 0}, {0, 0, 1}}) {
		t.Errorf("One(3): %v", got)
	}
}

// TestP7_1OneNone is One of what is not 1 to 64.
func TestP7_1OneNone(t *testing.T) {
	l := []int{0, -1, -2, -64, 65, 66, 100, 127, 128, 255, 256, 257, 320, 1 << 16, 1<<16 + 1, math.MaxInt32, math.MinInt32, math.MaxInt - 1, math.MaxInt, math.MinInt, math.MinInt + 1}
	for n := math.MaxInt; n > 64; n >>= 1 {
		l = append(l, n, -n, n+1, n/2+2)
	}
	for _, n := range l {
		if n >= 1 && n <= 64 {
			continue
		}
		if got, e := matrix.One(n); got != nil || e != api.ErrArg {
			t.Errorf("One(%d): %d rows, %d", n, len(got), e)
		}
	}
}

// TestW1Products is products of whatever is drawn, rows of unlike length among them: each one ends, and answers as on paper.
func TestW1Products(t *testing.T) {
	x := drawn(8)
	for range 5000 {
		a, b := x.matrix(x.below(4), x.below(4)), x.matrix(x.below(4), x.below(4))
		if x.below(4) == 0 && len(a) > 0 {
			a[x.below(len(a))] = x.row(x.below(4))
		}
		if x.below(4) == 0 && len(b) > 0 {
			b[x.below(len(b))] = x.row(x.below(4))
		}
		if !fits(a) || !fits(b) || len(a[0]) != len(b) {
			isMul(t, a, b, nil, api.ErrArg)
			continue
		}
		isMul(t, a, b, paperMul(a, b), api.OK)
	}
}

// fits asks whether few rows are a matrix.
func fits(a [][]byte) bool {
	for _, row := range a {
		if len(row) == 0 || len(row) != len(a[0]) {
			return false
		}
	}
	return len(a) > 0
}
