package disk_test

import (
	"bytes"
	"math"
	"slices"
	"strings"
	"testing"

	"garner/api"
	"garner/disk"
)

// inRoom is bytes with other ones in the spare room behind their end, and all of that room.
func inRoom(p []byte) ([]byte, []byte) {
	whole := slices.Concat(p, bytes.Repeat([]byte{0xaa}, 24))
	return whole[:len(p)], whole
}

// spoil writes into all of some bytes, their spare room too.
func spoil(b []byte) {
	b = b[:cap(b)]
	for i := range b {
		b[i] ^= 0x5a
	}
}

// TestP4_7Append asks whether Append neither changes nor keeps its bytes, nor the room behind them.
func TestP4_7Append(t *testing.T) {
	for _, n := range []int{0, 1, 2, 7, 8, 100, 5000} {
		d := made(t, 1<<20)
		var want []byte
		for i := range 5 {
			p, whole := inRoom(bytes.Repeat([]byte{byte(i + 1)}, n))
			before := bytes.Clone(whole)
			is(t, "Append", d.Append("a", p), api.OK)
			want = append(want, p...)
			if !bytes.Equal(whole, before) {
				t.Errorf("%d bytes became %x", n, whole)
			}
			is(t, "Append to a file of its own", d.Append("b", p), api.OK)
			for at := range n {
				is(t, "Rot", d.Rot("b", at, 0xff), api.OK)
			}
			is(t, "Append behind", d.Append("b", []byte{0xbb}), api.OK)
			if !bytes.Equal(whole, before) {
				t.Errorf("%d bytes are shared: %x", n, whole)
			}
			is(t, "Remove", d.Remove("b"), api.OK)
			spoil(whole)
			if b, e := d.Read("a"); e != api.OK || !bytes.Equal(b, want) {
				t.Errorf("%d bytes are kept as they were handed in", n)
			}
		}
	}
}

// TestP4_7Refused asks whether an Append that is refused leaves its bytes, and the room behind them.
func TestP4_7Refused(t *testing.T) {
	d, m := laid(t, 10, of("a", "12345", 2))
	p, whole := inRoom([]byte("678901"))
	before := bytes.Clone(whole)
	is(t, "too much", d.Append("a", p), api.ErrFull)
	is(t, "too much", d.Append("b", p), api.ErrFull)
	is(t, "a name that is none", d.Append("", p), api.ErrArg)
	if !bytes.Equal(whole, before) {
		t.Errorf("%x", whole)
	}
	// The room behind does not count.
	is(t, "some bytes", d.Append("a", p[:5]), api.OK)
	is(t, "on paper", m.add("a", p[:5]), api.OK)
	spoil(whole)
	agrees(t, "as it was handed in", d, m)
}

// TestP4_7Read asks whether what Read answers is new memory, with its spare room.
func TestP4_7Read(t *testing.T) {
	for _, b := range []string{"", "1", "12345", strings.Repeat("xy", 50), strings.Repeat("z", 5001)} {
		d, m := laid(t, 1<<20, of("a", b, len(b)/2))
		first, _ := d.Read("a")
		second, _ := d.Read("a")
		spoil(second)
		_ = append(second, 1, 2, 3, 4)
		if string(first) != b {
			t.Errorf("%d bytes: two answers share memory", len(b))
		}
		agrees(t, "behind a Read that was spoiled", d, m)
		is(t, "Append", d.Append("a", []byte("6789")), api.OK)
		spoil(second)
		isFile(t, "grown behind a Read", d, "a", []byte(b+"6789"), len(b)/2)
		is(t, "Append of what was read", d.Append("a", first), api.OK)
		spoil(first)
		isFile(t, "grown by a Read", d, "a", []byte(b+"6789"+b), len(b)/2)
	}
}

// TestP4_7Stays asks whether what Read answered stays, whatever is done to the disk.
func TestP4_7Stays(t *testing.T) {
	d, _ := laid(t, 1000, of("a", "12345", 2), of("b", "67", 0), of("c", "89", 1))
	a, _ := d.Read("a")
	b, _ := d.Read("b")
	c, _ := d.Read("c")
	l := d.List()
	change(d)
	change(d)
	is(t, "Cut", d.Cut("a", 0), api.OK)
	is(t, "Append", d.Append("a", []byte("vwxyz")), api.OK)
	if string(a) != "12345" || string(b) != "67" || string(c) != "89" || !slices.Equal(l, []string{"a", "b", "c"}) {
		t.Errorf("%q %q %q %q", a, b, c, l)
	}
}

// TestP4_7List asks whether two lists of names share no memory, and none with the disk.
func TestP4_7List(t *testing.T) {
	d, m := laid(t, 100, of("b", "12", 1), of("a", "", 0), of("c", "3", 1))
	first, second := d.List(), d.List()
	second = second[:cap(second)]
	for i := range second {
		second[i] = "x"
	}
	if !slices.Equal(first, []string{"a", "b", "c"}) {
		t.Errorf("two lists share memory: %q", first)
	}
	agrees(t, "behind a List that was spoiled", d, m)
}

// TestP4_7Zero is a zero Disk: it has no room, and does all else that one does.
func TestP4_7Zero(t *testing.T) {
	var d disk.Disk
	agrees(t, "a zero Disk", &d, &paper{})
	isNone(t, "a zero Disk", &d, "a")
	isNone(t, "a zero Disk", &d, "")
	is(t, "one byte", d.Append("a", []byte{1}), api.ErrFull)
	is(t, "a name that is none", d.Append("", nil), api.ErrArg)
	is(t, "Rename to a name that is none", d.Rename("a", ""), api.ErrArg)
	d.Crash(5)
	agrees(t, "a zero Disk", &d, &paper{})
	c := d.Copy()
	agrees(t, "its copy", c, &paper{})
	is(t, "no bytes", d.Append("a", nil), api.OK)
	is(t, "one byte", d.Append("a", []byte{1}), api.ErrFull)
	is(t, "another name", d.Rename("a", "b"), api.OK)
	isFile(t, "a file of no bytes", &d, "b", nil, 0)
	agrees(t, "its copy", c, &paper{})
	is(t, "one byte in the copy", c.Append("a", []byte{1}), api.ErrFull)
	is(t, "no bytes in the copy", c.Append("a", nil), api.OK)
}

// TestP4_7Nil is a nil Disk: nothing happens to it.
func TestP4_7Nil(t *testing.T) {
	var d *disk.Disk
	for _, name := range append(wrongNames(), names()...) {
		for _, p := range [][]byte{nil, {}, {1}} {
			is(t, "Append", d.Append(name, p), api.ErrArg)
		}
		for _, n := range []int{math.MinInt, -1, 0, 1, math.MaxInt} {
			is(t, "Cut", d.Cut(name, n), api.ErrArg)
			is(t, "Rot", d.Rot(name, n, 1), api.ErrNone)
			d.Crash(n)
		}
		is(t, "Rename", d.Rename(name, "a"), api.ErrArg)
		is(t, "Rename", d.Rename("a", name), api.ErrArg)
		is(t, "Sync", d.Sync(name), api.ErrNone)
		is(t, "Remove", d.Remove(name), api.ErrNone)
		if b, e := d.Read(name); len(b) != 0 || e != api.ErrNone {
			t.Errorf("Read: %x, error %d", b, e)
		}
		if n, ok := d.Size(name); n != 0 || ok {
			t.Errorf("Size: %d, %t", n, ok)
		}
	}
	if len(d.List()) != 0 || d.Used() != 0 || d.Copy() != nil {
		t.Errorf("%q of %d, copied %v", d.List(), d.Used(), d.Copy())
	}
}

// TestW2Twins is that two disks to which the same is done answer the same.
func TestW2Twins(t *testing.T) {
	for start := range 20 {
		one, two := drawn(start), drawn(start)
		d, m, c, n := made(t, 200), &paper{room: 200}, made(t, 200), &paper{room: 200}
		for range 100 {
			name, e, _ := doOne(&one, d, m)
			_, again, _ := doOne(&two, c, n)
			is(t, name, again, e)
			agrees(t, name, c, m)
		}
	}
}
