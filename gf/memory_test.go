package gf_test

import (
	"bytes"
	"slices"
	"testing"

	"garner/gf"
)

// behind is what stands in the spare room behind rows that are handed in.
var behind = bytes.Repeat([]byte{0xaa}, 24)

// inRoom is a row with other things in the spare room behind its end, and all of that room.
func inRoom(l []byte) ([]byte, []byte) {
	whole := slices.Concat(l, behind)
	return whole[:len(l)], whole
}

// spoil writes into all of a row, its spare room too.
func spoil(l []byte) {
	l = l[:cap(l)]
	for i := range l {
		l[i] ^= 0x5a
	}
}

// call is a call that answers a row, by its name.
type call struct {
	name string
	row  func(a, b []byte) []byte
}

// calls are those that answer a row, with each argument for which an answer might be one that was handed in.
func calls() []call {
	l := []call{{"Add", func(a, b []byte) []byte { s, _ := gf.Add(a, b); return s }}}
	for _, c := range []byte{0, 1, 2, 255} {
		l = append(l,
			call{"Scale of the first", func(a, _ []byte) []byte { return gf.Scale(a, c) }},
			call{"Scale of the second", func(_, b []byte) []byte { return gf.Scale(b, c) }})
	}
	return l
}

// couples are two rows each, of many lengths: drawn ones, ones of zeroes beside another, two that are alike, two of unlike length.
func couples() [][2][]byte {
	x := drawn(8)
	var l [][2][]byte
	for _, n := range lengths() {
		a, b := x.row(n), x.row(n)
		l = append(l, [2][]byte{a, b}, [2][]byte{a, make([]byte, n)}, [2][]byte{make([]byte, n), b}, [2][]byte{a, a}, [2][]byte{a, append(x.row(n), 1)}, [2][]byte{append(x.row(n), 0), b})
	}
	return append(l, [2][]byte{nil, nil}, [2][]byte{nil, {}}, [2][]byte{{}, nil}, [2][]byte{nil, {1}}, [2][]byte{{1}, {}})
}

// TestP6_4Arguments asks whether what is handed in, and the room behind it, stays as it is, whether the call answers a row, a number or an error.
func TestP6_4Arguments(t *testing.T) {
	l := append(calls(), call{"Dot", func(a, b []byte) []byte { gf.Dot(a, b); return nil }})
	for _, x := range couples() {
		for _, c := range l {
			a, wholeA := inRoom(x[0])
			b, wholeB := inRoom(x[1])
			beforeA, beforeB := slices.Clone(wholeA), slices.Clone(wholeB)
			c.row(a, b)
			if !bytes.Equal(wholeA, beforeA) || !bytes.Equal(wholeB, beforeB) {
				t.Errorf("%s of %x and %x changed them, or the room behind", c.name, head(x[0]), head(x[1]))
			}
		}
	}
}

// TestP6_4RoomBehind asks whether what stands behind rows' ends has no say, and stands behind no answer's end.
func TestP6_4RoomBehind(t *testing.T) {
	for _, x := range couples() {
		a, _ := inRoom(x[0])
		b, _ := inRoom(x[1])
		bareA, bareB := slices.Clip(slices.Clone(x[0])), slices.Clip(slices.Clone(x[1]))
		for _, c := range calls() {
			got := c.row(a, b)
			alike(t, c.name, got, c.row(bareA, bareB))
			if bytes.IndexByte(got[len(got):cap(got)], 0xaa) >= 0 {
				t.Errorf("%s of %x and %x: room that was handed in stands behind the answer", c.name, head(a), head(b))
			}
		}
		s, e := gf.Dot(a, b)
		if want, wantE := gf.Dot(bareA, bareB); s != want || e != wantE {
			t.Errorf("Dot of %x and %x: %d, %d, not %d, %d", head(a), head(b), s, e, want, wantE)
		}
	}
}

// TestP6_4Answers asks whether an answer, with its spare room, is new memory: what is written there is not seen in what was handed in, nor in the room behind that.
func TestP6_4Answers(t *testing.T) {
	for _, x := range couples() {
		for _, c := range calls() {
			a, wholeA := inRoom(x[0])
			b, wholeB := inRoom(x[1])
			beforeA, beforeB := slices.Clone(wholeA), slices.Clone(wholeB)
			got := c.row(a, b)
			_ = append(got, 1, 2, 3)
			spoil(got)
			if !bytes.Equal(wholeA, beforeA) || !bytes.Equal(wholeB, beforeB) {
				t.Errorf("%s of %x and %x: the answer shares memory with them, or with the room behind", c.name, head(x[0]), head(x[1]))
			}
		}
	}
}

// TestP6_4Kept asks whether an answer stays what it is, and the next one too, when what was handed in is spoiled, and another answer.
func TestP6_4Kept(t *testing.T) {
	for _, x := range couples() {
		for _, c := range calls() {
			a, wholeA := inRoom(x[0])
			b, wholeB := inRoom(x[1])
			first := c.row(a, b)
			want := slices.Clone(first)
			other := c.row(a, b)
			alike(t, c.name+" again", other, want)
			_ = append(other, 1, 2, 3)
			spoil(other)
			alike(t, c.name+" behind one that was spoiled", first, want)
			third := c.row(a, b)
			alike(t, c.name+" once more", third, want)
			spoil(wholeA)
			spoil(wholeB)
			alike(t, c.name+" behind rows that were spoiled", first, want)
			alike(t, c.name+" behind rows that were spoiled", third, want)
			alike(t, c.name+" of the same rows", c.row(slices.Clone(x[0]), slices.Clone(x[1])), want)
		}
	}
}

// TestP6_4Stays asks whether answers stay what they are, whatever is called later with rows of that length and others.
func TestP6_4Stays(t *testing.T) {
	var got, wants [][]byte
	for range 2 {
		for _, x := range couples() {
			for _, c := range calls() {
				l := c.row(x[0], x[1])
				got, wants = append(got, l), append(wants, slices.Clone(l))
				gf.Dot(x[0], x[1])
			}
		}
	}
	for i := range got {
		alike(t, "an answer of before", got[i], wants[i])
	}
}

// TestP6_4Chain asks whether an answer that is handed in again stays as it is.
func TestP6_4Chain(t *testing.T) {
	x := drawn(9)
	for _, n := range lengths() {
		row := x.row(n)
		want := row
		for range 20 {
			before := slices.Clone(row)
			c := x.next()
			next := sum(t, gf.Scale(row, c), row)
			alike(t, "a row that was handed in again", row, before)
			want = paperSum(paperScale(want, c), want)
			alike(t, "a chain", next, want)
			row = next
		}
	}
}

// TestW2Twins asks whether the same call answers the same, whatever was called between.
func TestW2Twins(t *testing.T) {
	one, two := drawn(10), drawn(10)
	for range 500 {
		a, b := one.row(8), two.row(8)
		c, d := one.next(), two.next()
		alike(t, "Scale", gf.Scale(a, c), gf.Scale(b, d))
		alike(t, "Add", sum(t, a, every()[:8]), sum(t, b, every()[:8]))
		isDot(t, a, every()[:8], dot(t, b, every()[:8]), 0)
		isPow(t, c, int(c)-128, gf.Pow(d, int(d)-128))
		isMul(t, a[0], c, gf.Mul(b[0], d))
	}
}
