package wal_test

import (
	"bytes"
	"slices"
	"testing"

	"garner/api"
)

// inRoom is bytes with other ones in the spare room behind their end, and all of that room.
func inRoom(p []byte) ([]byte, []byte) {
	whole := slices.Concat(p, bytes.Repeat([]byte{0xaa}, 24))
	return whole[:len(p)], whole
}

// spoil writes into all of some bytes, their spare room too.
func spoil(b []byte) {
	b = b[:cap(b)]
	for i := range b {
		b[i] ^= 0x5a
	}
}

// TestP10_7Append asks whether Append neither changes nor keeps its bytes, nor the room behind them.
func TestP10_7Append(t *testing.T) {
	for _, n := range []int{0, 1, 2, 7, 8, 9, 100, 1015, 5000, api.MaxFrame - 10} {
		x := begun(t, 1<<22, "log")
		for i := range 2 {
			p, whole := inRoom(row(n, uint64(i)))
			before := bytes.Clone(whole)
			x.laid(p)
			if !bytes.Equal(whole, before) {
				t.Errorf("%d bytes became others", n)
			}
			spoil(whole)
			x.agrees("behind a row that was spoiled")
		}
		p, whole := inRoom(row(20, 45))
		before := bytes.Clone(whole)
		x.laid(p)
		is(t, "Rot", x.d.Rot(x.d.List()[0], 9, 0), api.OK)
		is(t, "Cut", x.cut(x.w.next-1), api.OK)
		x.laid([]byte("in the place of it"))
		if !bytes.Equal(whole, before) {
			t.Errorf("%d bytes: a row is shared with the log", n)
		}
	}
}

// TestP10_7Refused asks whether an Append that is refused leaves its bytes, and the room behind them.
func TestP10_7Refused(t *testing.T) {
	x := begun(t, 1000, "log")
	x.laid([]byte("old"))
	for n, want := range map[int]api.Errno{990: api.ErrFull, 2000: api.ErrFull, api.MaxFrame - 10: api.ErrFull, api.MaxFrame - 9: api.ErrLong} {
		p, whole := inRoom(row(n, 46))
		before := bytes.Clone(whole)
		is(t, "refused", x.append(p), want)
		if !bytes.Equal(whole, before) {
			t.Errorf("%d bytes became others", n)
		}
		spoil(whole)
		x.agrees("behind a row that was spoiled")
	}
}

// TestP10_7Get asks whether what Get answers is new memory, its spare room too, of entries that were laid and of such as were read.
func TestP10_7Get(t *testing.T) {
	x := begun(t, 1<<23, "log")
	for _, n := range []int{0, 1, 2, 7, 8, 9, 100, 1015, 5000, api.MaxFrame - 10, 3} {
		x.laid(row(n, uint64(n)))
	}
	for range 2 {
		for i, want := range x.w.entries {
			first, _ := x.l.Get(i)
			second, _ := x.l.Get(i)
			spoil(second)
			_ = append(second, 1, 2, 3, 4)
			if !bytes.Equal(first, want) {
				t.Errorf("the entry %d: two answers share memory", i)
			}
			spoil(first)
		}
		x.agrees("behind answers that were spoiled")
		x.anew()
	}
}

// TestP10_7Between asks whether an entry that was got and is laid again is another one, which shares nothing.
func TestP10_7Between(t *testing.T) {
	x := begun(t, 1<<16, "log")
	x.laid(row(50, 47))
	p, _ := x.l.Get(1)
	x.laid(p)
	spoil(p)
	x.agrees("an entry that was got, laid and spoiled")
}

// TestW7 asks whether what Get answered stays, whatever is done later.
func TestW7(t *testing.T) {
	x := parted(t, 1, true)
	got := map[int][]byte{}
	want := map[int][]byte{}
	for i, p := range x.w.entries {
		got[i], _ = x.l.Get(i)
		want[i] = bytes.Clone(p)
	}
	x.l.Cut(9)
	x.l.Append(row(100, 48))
	for _, file := range x.d.List() {
		for at := range 600 {
			x.d.Rot(file, at, 0xff)
		}
	}
	x.l.Drop(6)
	x.l.Cut(5)
	for range 20 {
		x.l.Append(row(100, 49))
	}
	for i, p := range got {
		if !bytes.Equal(p, want[i]) {
			t.Errorf("the entry %d became %.40x, was %.40x", i, p, want[i])
		}
	}
}
