package bits_test

import (
	"bytes"
	"slices"
	"testing"

	"garner/bits"
)

// inRoom is a row with other things in the spare room behind its end, and all of that room.
func inRoom[T any](l []T, behind ...T) ([]T, []T) {
	whole := slices.Concat(l, behind)
	return whole[:len(l)], whole
}

// TestP1_9Arguments asks whether what is handed in, and the room behind it, stays as it is.
func TestP1_9Arguments(t *testing.T) {
	calls := map[string]func([]byte){
		"ReadUvarint": func(b []byte) { bits.ReadUvarint(b) },
		"Get32":       func(b []byte) { bits.Get32(b) },
		"Get64":       func(b []byte) { bits.Get64(b) },
		"Sum":         func(b []byte) { bits.Sum(b) },
		"Unpack":      func(b []byte) { bits.Unpack(b, 8*len(b)) },
		"Unpack less": func(b []byte) { bits.Unpack(b, 8*len(b)-3) },
	}
	for _, row := range [][]byte{nil, {0}, {0x1f}, {0xff, 1}, {1, 2, 3, 4, 5, 6, 7, 8, 9}, bytes.Repeat([]byte{0xff}, 12)} {
		for name, call := range calls {
			b, whole := inRoom(row, 0xaa, 0x55, 0xff, 0)
			before := slices.Clone(whole)
			call(b)
			if !bytes.Equal(whole, before) {
				t.Errorf("%s of %x made %x of %x", name, row, whole, before)
			}
		}
	}
	for n := range 20 {
		l, whole := inRoom(slices.Repeat([]bool{true}, n), true, false, true)
		before := slices.Clone(whole)
		bits.Pack(l)
		if !slices.Equal(whole, before) {
			t.Errorf("Pack of %d made %v of %v", n, whole, before)
		}
	}
}

// TestP1_9RoomBehind asks whether what stands behind a row's end has no say.
func TestP1_9RoomBehind(t *testing.T) {
	for n := range 9 {
		l, _ := inRoom(make([]bool, n), true, true, true, true, true, true, true, true, true)
		if b := bits.Pack(l); !bytes.Equal(b, make([]byte, (n+7)/8)) {
			t.Errorf("%d: %x", n, b)
		}
	}
	for _, row := range [][]byte{nil, {0x80}, {1, 2, 3}, {1, 2, 3, 4, 5, 6, 7}} {
		b, _ := inRoom(row, 1, 1, 1, 1)
		bare := slices.Clip(slices.Clone(row))
		v, n, e := bits.ReadUvarint(b)
		if wantV, wantN, wantE := bits.ReadUvarint(bare); v != wantV || n != wantN || e != wantE {
			t.Errorf("ReadUvarint of %x: %d %d %d", row, v, n, e)
		}
		x, e := bits.Get32(b)
		if wantX, wantE := bits.Get32(bare); x != wantX || e != wantE {
			t.Errorf("Get32 of %x: %d %d", row, x, e)
		}
		y, e := bits.Get64(b)
		if wantY, wantE := bits.Get64(bare); y != wantY || e != wantE {
			t.Errorf("Get64 of %x: %d %d", row, y, e)
		}
		if bits.Sum(b) != bits.Sum(bare) {
			t.Errorf("Sum of %x", row)
		}
		if _, e := bits.Unpack(b, 8*len(b)+1); e == 0 {
			t.Errorf("Unpack of %x", row)
		}
	}
}

// spoil writes into all of a list, its spare room too.
func spoil[T any](l []T, with T) {
	l = l[:cap(l)]
	for i := range l {
		l[i] = with
	}
}

// stays asks whether an answer is the same again, and stays so, when another answer and the argument are spoiled.
func stays[T comparable](t *testing.T, name string, call func() []T, with T, argument func()) {
	t.Helper()
	first := call()
	before := slices.Clone(first)
	spoil(call(), with)
	if !slices.Equal(first, before) {
		t.Errorf("%s: an answer shares memory with another one", name)
	}
	third := call()
	if !slices.Equal(third, before) {
		t.Errorf("%s: an answer hangs on what was done to another one", name)
	}
	argument()
	if !slices.Equal(first, before) || !slices.Equal(third, before) {
		t.Errorf("%s: an answer shares memory with its argument", name)
	}
}

// TestP1_9Answers asks whether what is answered is new memory.
func TestP1_9Answers(t *testing.T) {
	nothing := func() {}
	for _, v := range numbers() {
		stays(t, "Uvarint", func() []byte { return bits.Uvarint(v) }, 0x3c, nothing)
		stays(t, "Put32", func() []byte { return bits.Put32(uint32(v)) }, 0x3c, nothing)
		stays(t, "Put64", func() []byte { return bits.Put64(v) }, 0x3c, nothing)
	}
	d := draws(8)
	for n := range 40 {
		b := d.row(n)
		stays(t, "Unpack", func() []bool { l, _ := bits.Unpack(b, 8*n); return l }, true, func() { spoil(b, 0x3c) })
		l, _ := bits.Unpack(d.row(n), 8*n)
		stays(t, "Pack", func() []byte { return bits.Pack(l) }, 0x3c, func() { spoil(l, true) })
	}
}
