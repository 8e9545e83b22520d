package needle_test

import (
	"bytes"
	"slices"
	"testing"

	"garner/api"
	"garner/needle"
)

// inRoom is a row with other bytes in the spare room behind its end, and all of that room.
func inRoom(b []byte) ([]byte, []byte) {
	whole := slices.Concat(b, bytes.Repeat([]byte{0xaa}, 40))
	return whole[:len(b)], whole
}

// spoil writes into all of a list, its spare room too.
func spoil(b []byte) {
	b = b[:cap(b)]
	for i := range b {
		b[i] ^= 0x5a
	}
}

// datas are Data of needles: of no byte, of such as leave room behind the sum and such as do not, of too many.
func datas() [][]byte {
	return [][]byte{nil, {}, {0xab}, row(3, 31), row(4, 32), row(5, 33), row(100, 34), row(api.MaxNeedle, 35), row(api.MaxNeedle+1, 36)}
}

// rows are what Decode may be given: needles, torn ones, damaged ones, such as are none.
func rows() [][]byte {
	l := [][]byte{nil, {0x6e}, make([]byte, 24), row(60, 37)}
	for _, n := range needles()[:12] {
		b := laid(n)
		damaged := laid(n)
		damaged[len(b)-1] ^= 1
		l = append(l, b, b[:len(b)-1], damaged, slices.Concat(b, b))
	}
	return append(l, laid(api.Needle{Key: 1, Data: row(api.MaxNeedle, 38)}))
}

// TestP11_4Arguments asks whether what is handed in, and the room behind it, stays as it is.
func TestP11_4Arguments(t *testing.T) {
	for _, data := range datas() {
		for _, dead := range []bool{false, true} {
			b, whole := inRoom(data)
			before := bytes.Clone(whole)
			n := api.Needle{Key: 1, Cookie: 2, Dead: dead, Data: b}
			needle.Encode(n)
			if !bytes.Equal(whole, before) || !bytes.Equal(n.Data, b) {
				t.Errorf("Encode of %d bytes changed them", len(data))
			}
		}
	}
	for _, a := range rows() {
		b, whole := inRoom(a)
		before := bytes.Clone(whole)
		needle.Decode(b)
		if !bytes.Equal(whole, before) {
			t.Errorf("Decode of %d bytes changed them", len(a))
		}
	}
}

// TestP11_4RoomBehind asks whether what stands behind the end of what is handed in has no say.
func TestP11_4RoomBehind(t *testing.T) {
	for _, data := range datas() {
		inside, _ := inRoom(data)
		b, e := needle.Encode(api.Needle{Key: 1, Data: inside})
		if want, wantE := needle.Encode(api.Needle{Key: 1, Data: slices.Clip(bytes.Clone(data))}); e != wantE || !bytes.Equal(b, want) {
			t.Errorf("Encode of %d bytes: %.40x, error %d", len(data), b, e)
		}
	}
	for _, a := range rows()[:20] {
		for end := range a {
			n, took, e := needle.Decode(a[:end])
			if want, wantTook, wantE := needle.Decode(slices.Clip(bytes.Clone(a[:end]))); e != wantE || took != wantTook || !same(n, want) {
				t.Errorf("Decode of %d bytes: %s of %d, error %d", end, show(n), took, e)
			}
		}
	}
}

// stays asks whether an answer stays, and comes again, when another answer and then the argument are spoiled.
func stays(t *testing.T, name string, a []byte, call func([]byte) []byte) {
	t.Helper()
	b, whole := inRoom(a)
	first := call(b)
	before := bytes.Clone(first)
	spoil(call(b))
	if !bytes.Equal(first, before) {
		t.Errorf("%s of %d bytes: an answer shares memory with another one", name, len(a))
	}
	third := call(b)
	if !bytes.Equal(third, before) {
		t.Errorf("%s of %d bytes: an answer hangs on what was done to another one", name, len(a))
	}
	kept := bytes.Clone(whole)
	spoil(call(b))
	if !bytes.Equal(whole, kept) {
		t.Errorf("%s of %d bytes: an answer writes into its argument", name, len(a))
	}
	spoil(whole)
	if !bytes.Equal(first, before) || !bytes.Equal(third, before) {
		t.Errorf("%s of %d bytes: an answer shares memory with its argument", name, len(a))
	}
}

// TestP11_4Answers asks whether what is answered is new memory.
func TestP11_4Answers(t *testing.T) {
	for _, data := range datas() {
		stays(t, "Encode", data, func(b []byte) []byte {
			x, _ := needle.Encode(api.Needle{Key: 1, Cookie: 2, Data: b})
			return x
		})
		stays(t, "Encode of a Dead one", data, func(b []byte) []byte {
			x, _ := needle.Encode(api.Needle{Key: 1, Cookie: 2, Dead: true, Data: b})
			return x
		})
	}
	for _, a := range rows() {
		stays(t, "Decode", a, func(b []byte) []byte { n, _, _ := needle.Decode(b); return n.Data })
	}
}

// TestP11_4Apart asks whether calls of other needles between them change no answer.
func TestP11_4Apart(t *testing.T) {
	for _, a := range rows() {
		n, took, e := needle.Decode(a)
		before := bytes.Clone(n.Data)
		for _, other := range rows()[:12] {
			needle.Decode(other)
			needle.Encode(api.Needle{Data: other})
		}
		if m, again, f := needle.Decode(a); !bytes.Equal(n.Data, before) || !same(n, m) || took != again || e != f {
			t.Errorf("%d bytes: %s of %d, error %d, then %s of %d, error %d", len(a), show(n), took, e, show(m), again, f)
		}
	}
}
