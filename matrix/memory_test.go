package matrix_test

import (
	"bytes"
	"slices"
	"testing"

	"garner/api"
	"garner/matrix"
)

// handed is a matrix that is handed in, with other things in the room behind: row is each row with that room, all is the list of rows with more of them behind.
type handed struct {
	a     [][]byte
	rows  [][]byte
	all   [][]byte
	heads []*byte
}

// inRoom is a matrix with bytes in the room behind each row and rows in the room behind the last one.
func inRoom(a [][]byte) *handed {
	h := &handed{}
	for _, row := range a {
		whole := slices.Concat(row, bytes.Repeat([]byte{0xaa}, 70))
		h.rows = append(h.rows, whole)
		h.all = append(h.all, whole[:len(row)])
	}
	for range 66 {
		whole := bytes.Repeat([]byte{0xaa}, 134)
		h.rows = append(h.rows, whole)
		h.all = append(h.all, whole[:64])
	}
	h.a = h.all[:len(a)]
	for _, row := range h.all {
		h.heads = append(h.heads, &row[:1][0])
	}
	return h
}

// stays asks whether all of it is as it was: each row's bytes, the room behind, and which row stands where.
func (h *handed) stays(t *testing.T, name string, before *handed) {
	t.Helper()
	if !same(h.rows, before.rows) {
		t.Errorf("%s: a row that was handed in was changed, or the room behind it", name)
	}
	for i, row := range h.all {
		if len(row) != len(before.all[i]) || &row[:1][0] != h.heads[i] {
			t.Errorf("%s: another row stands at %d of what was handed in", name, i)
		}
	}
}

// spoil writes into all of it.
func (h *handed) spoil() {
	for i := range h.rows {
		for j := range h.rows[i] {
			h.rows[i][j] ^= 0x5a
		}
	}
	for i := range h.all {
		h.all[i] = []byte{0x5a}
	}
}

// spoilRow writes into all of a row and the room behind it.
func spoilRow(row []byte) {
	_ = append(row, 1, 2, 3)
	row = row[:cap(row)]
	for i := range row {
		row[i] ^= 0x5a
	}
}

// spoil writes into all rows of an answer and the room behind them, and lays other rows into their list and the room behind that.
func spoil(l [][]byte) {
	for _, row := range l {
		spoilRow(row)
	}
	l = l[:cap(l)]
	for i := range l {
		l[i] = []byte{0x5a, 0x5a}
	}
}

// call is a call that answers a matrix, by its name.
type call struct {
	name   string
	answer func(a, b [][]byte) ([][]byte, api.Errno)
}

// calls are those to which matrices are handed in.
func calls() []call {
	return []call{
		{"Mul", matrix.Mul},
		{"Mul turned", func(a, b [][]byte) ([][]byte, api.Errno) { return matrix.Mul(b, a) }},
		{"Mul of the first with itself", func(a, _ [][]byte) ([][]byte, api.Errno) { return matrix.Mul(a, a) }},
		{"Invert of the first", func(a, _ [][]byte) ([][]byte, api.Errno) { return matrix.Invert(a) }},
		{"Invert of the second", func(_, b [][]byte) ([][]byte, api.Errno) { return matrix.Invert(b) }},
	}
}

// couples are two matrices each: ones that fit, One beside another, ones that need no work or much, flat ones, ones that are refused.
func couples() [][2][][]byte {
	x := drawn(31)
	var l [][2][][]byte
	for _, n := range []int{1, 2, 3, 5, 14, 64} {
		one, a := paperOne(n), x.whole(n)
		l = append(l,
			[2][][]byte{one, one},
			[2][][]byte{one, a},
			[2][][]byte{a, one},
			[2][][]byte{picked(one, x.order(n)), x.whole(n)},
			[2][][]byte{x.flat(n, n/2), a},
			[2][][]byte{x.flat(n, n-1), noughts(n, n)},
			[2][][]byte{a, x.matrix(n, 4)},
			[2][][]byte{x.matrix(1, n), x.matrix(n, 1)},
			[2][][]byte{x.matrix(3, n), x.matrix(n+1, 2)},
			[2][][]byte{append(copied(a), x.row(n+1)), a},
			[2][][]byte{append(copied(a), nil), append(copied(a), []byte{})})
	}
	return append(l, [2][][]byte{nil, {{1}}}, [2][][]byte{nil, {}}, [2][][]byte{{{}}, {nil}}, [2][][]byte{x.matrix(65, 65), x.matrix(65, 65)}, [2][][]byte{x.matrix(1, 65), x.matrix(65, 1)})
}

// alike asks whether two ways led to the same rows.
func alike(t *testing.T, name string, a, b [][]byte) {
	t.Helper()
	if !same(a, b) {
		t.Fatalf("%s: %v and %v", name, few(a), few(b))
	}
}

// TestP7_4Arguments asks whether what is handed in stays as it is, row by row, with the room behind each one and behind the last, whatever the answer.
func TestP7_4Arguments(t *testing.T) {
	for _, x := range couples() {
		for _, c := range calls() {
			a, b := inRoom(x[0]), inRoom(x[1])
			beforeA, beforeB := inRoom(x[0]), inRoom(x[1])
			c.answer(a.a, b.a)
			a.stays(t, c.name, beforeA)
			b.stays(t, c.name, beforeB)
		}
	}
}

// TestP7_4RoomBehind asks whether what stands behind rows' ends and behind the last row has no say, and stands behind no answer's end.
func TestP7_4RoomBehind(t *testing.T) {
	for _, x := range couples() {
		for _, c := range calls() {
			got, e := c.answer(inRoom(x[0]).a, inRoom(x[1]).a)
			want, wantE := c.answer(copied(x[0]), copied(x[1]))
			alike(t, c.name, got, want)
			if e != wantE {
				t.Errorf("%s: %d, not %d", c.name, e, wantE)
			}
			for _, row := range got[:cap(got)] {
				if bytes.IndexByte(row[min(len(row), 64):cap(row)], 0xaa) >= 0 {
					t.Errorf("%s: room that was handed in stands behind the answer", c.name)
				}
			}
		}
	}
}

// TestP7_4Answers asks whether an answer, with its spare room, is new memory: what is written there is not seen in what was handed in, nor in the room behind that.
func TestP7_4Answers(t *testing.T) {
	for _, x := range couples() {
		for _, c := range calls() {
			a, b := inRoom(x[0]), inRoom(x[1])
			beforeA, beforeB := inRoom(x[0]), inRoom(x[1])
			got, _ := c.answer(a.a, b.a)
			spoil(got)
			a.stays(t, c.name, beforeA)
			b.stays(t, c.name, beforeB)
		}
	}
}

// made are calls that answer a matrix to numbers.
func made() []call {
	var l []call
	for _, n := range []int{1, 2, 3, 14, 64} {
		l = append(l, call{"One", func(_, _ [][]byte) ([][]byte, api.Errno) { return matrix.One(n) }})
	}
	for _, n := range [][2]int{{1, 0}, {1, 1}, {1, 13}, {2, 1}, {4, 0}, {4, 2}, {10, 4}, {14, 0}, {13, 1}} {
		l = append(l, call{"Code", func(_, _ [][]byte) ([][]byte, api.Errno) { return matrix.Code(n[0], n[1]) }})
	}
	return l
}

// TestP7_4Rows asks whether the rows of an answer share no memory: what is written into one and the room behind it is not seen in another.
func TestP7_4Rows(t *testing.T) {
	for _, x := range couples() {
		for _, c := range slices.Concat(calls(), made()) {
			got, _ := c.answer(x[0], x[1])
			want := copied(got)
			for i := range got {
				spoilRow(got[i])
				spoilRow(want[i])
				if !same(got, want) {
					t.Fatalf("%s: the row %d of %d shares memory with another", c.name, i, len(got))
				}
			}
		}
	}
}

// TestP7_4Kept asks whether an answer stays what it is, and the next one too, when what was handed in is spoiled, and another answer.
func TestP7_4Kept(t *testing.T) {
	for _, x := range couples() {
		for _, c := range append(calls(), made()...) {
			a, b := inRoom(x[0]), inRoom(x[1])
			first, _ := c.answer(a.a, b.a)
			want := copied(first)
			other, _ := c.answer(a.a, b.a)
			alike(t, c.name+" again", other, want)
			spoil(other)
			alike(t, c.name+" behind one that was spoiled", first, want)
			third, _ := c.answer(a.a, b.a)
			alike(t, c.name+" once more", third, want)
			a.spoil()
			b.spoil()
			alike(t, c.name+" behind rows that were spoiled", first, want)
			alike(t, c.name+" behind rows that were spoiled", third, want)
			last, _ := c.answer(x[0], x[1])
			alike(t, c.name+" of the same rows", last, want)
		}
	}
}

// TestP7_4Stays asks whether answers stay what they are, whatever is called later.
func TestP7_4Stays(t *testing.T) {
	var got, wants [][][]byte
	for range 2 {
		for _, x := range couples() {
			for _, c := range append(calls(), made()...) {
				l, _ := c.answer(x[0], x[1])
				got, wants = append(got, l), append(wants, copied(l))
			}
		}
	}
	for i := range got {
		alike(t, "an answer of before", got[i], wants[i])
	}
}

// TestP7_4OneMemory is rows that lie one behind the other in one memory, each in the room behind the one ahead, and ones that overlap.
func TestP7_4OneMemory(t *testing.T) {
	x := drawn(32)
	for _, n := range []int{2, 3, 14, 63, 64} {
		a := x.whole(n)
		memory := bytes.Join(a, nil)
		before := slices.Clone(memory)
		l, over := make([][]byte, n), make([][]byte, n)
		for i := range n {
			l[i] = memory[i*n : (i+1)*n]
			over[i] = memory[i : i+n]
		}
		isMul(t, l, over, paperMul(a, copied(over)), api.OK)
		isMul(t, over, l, paperMul(copied(over), a), api.OK)
		isInvert(t, l, inverse(t, a), api.OK)
		want, e := matrix.Invert(copied(over))
		isInvert(t, over, want, e)
		if !bytes.Equal(memory, before) {
			t.Errorf("rows of %d in one memory were changed", n)
		}
	}
}

// TestP7_4Chain asks whether an answer that is handed in again stays as it is.
func TestP7_4Chain(t *testing.T) {
	x := drawn(33)
	for _, n := range []int{1, 2, 3, 14, 33} {
		a := x.whole(n)
		row, want := a, a
		for range 10 {
			before := copied(row)
			next, _ := matrix.Mul(row, a)
			back, _ := matrix.Invert(row)
			alike(t, "a matrix that was handed in again", row, before)
			want = paperMul(want, a)
			alike(t, "a chain", next, want)
			isMul(t, back, next, a, api.OK)
			row = next
		}
	}
}

// TestW2Twins asks whether the same call answers the same, whatever was called between.
func TestW2Twins(t *testing.T) {
	one, two := drawn(34), drawn(34)
	for range 200 {
		n := 1 + one.below(8)
		two.below(8)
		a, b := one.matrix(n, n), two.matrix(n, n)
		l, e := matrix.Invert(a)
		isInvert(t, b, l, e)
		l, e = matrix.Mul(a, b)
		isMul(t, b, a, l, e)
		l, e = matrix.Code(n, one.below(14))
		isCode(t, n, two.below(14), l, e)
	}
}
