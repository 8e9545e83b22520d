package disk_test

import (
	"bytes"
	"math"
	"slices"
	"strings"
	"testing"

	"garner/api"
	"garner/disk"
)

// draws are numbers that Crash is given: around 0, small, at both ends of their type.
func draws() []int {
	l := []int{math.MinInt, math.MinInt + 1, -1 << 31, -7, -2, -1, 1<<31 - 1, 1 << 31, 1 << 32, 1<<62 + 12345, math.MaxInt - 3, math.MaxInt - 2, math.MaxInt - 1, math.MaxInt}
	for i := range 40 {
		l = append(l, i)
	}
	return l
}

// TestP4_4Example is the chapter's example.
func TestP4_4Example(t *testing.T) {
	d := made(t, 10)
	is(t, "Append", d.Append("a", []byte("12345")), api.OK)
	is(t, "Sync", d.Sync("a"), api.OK)
	is(t, "Append", d.Append("a", []byte("678")), api.OK)
	d.Crash(1)
	isFile(t, "the example", d, "a", []byte("123456"), 6)
	is(t, "more than is left", d.Append("b", []byte("1234567")), api.ErrFull)
	isNone(t, "the example", d, "b")
}

// TestP4_4Told is Crash with draws and files whose bytes that stay are counted here by hand.
func TestP4_4Told(t *testing.T) {
	for draw, want := range map[int][]string{
		math.MinInt: {"", "v1", "lasts", "w123", "", "x"},
		-1:          {"", "v1", "lasts", "w123", "", "x"},
		0:           {"", "v1", "lasts", "w123", "", "x"},
		1:           {"1", "v12", "lasts", "w", "", "x1"},
		2:           {"12", "v", "lasts", "w1", "", "x12"},
		3:           {"123", "v1", "lasts", "w12", "", "x123"},
		4:           {"", "v12", "lasts", "w123", "", "x1234"},
		11:          {"123", "v", "lasts", "w12", "", "x1"},
	} {
		d, m := laid(t, 100, of("a", "123", 0), of("b", "v12", 1), of("c", "lasts", 5), of("d", "w123", 1), of("e", "", 0), of("f", "x1234", 1))
		d.Crash(draw)
		for i, s := range m.sheets {
			isFile(t, "crashed", d, s.name, []byte(want[i]), len(want[i]))
		}
		if n := len(strings.Join(want, "")); d.Used() != n {
			t.Errorf("%d bytes, not %d", d.Used(), n)
		}
	}
}

// TestP4_4 is Crash of one file and of several, with all draws, held against the chapter's words.
func TestP4_4(t *testing.T) {
	for _, l := range [][]sheet{
		nil,
		{of("a", "", 0)},
		{of("a", "1", 0)},
		{of("a", "12345678", 0)},
		{of("a", "12345678", 3)},
		{of("a", "12345678", 8)},
		{of("b", "12", 1), of("a", "345", 0), of("c", "6789", 4), of("\xff", "abcdef", 1), of("\x00", "g", 0)},
		{of("z", strings.Repeat("x", 500), 2), of("y", strings.Repeat("y", 300), 299), of("x", strings.Repeat("z", 700), 0)},
	} {
		for _, draw := range draws() {
			d, m := laid(t, 2000, l...)
			d.Crash(draw)
			m.crash(draw)
			agrees(t, "crashed", d, m)
			d.Crash(draw + 1)
			d.Crash(0)
			agrees(t, "crashed again: all lasts", d, m)
		}
	}
}

// TestP4_4Many is Crash of as many files as there may be: the number of each one counts.
func TestP4_4Many(t *testing.T) {
	for _, draw := range draws() {
		d, m := many(t)
		for i, name := range m.names() {
			p := bytes.Repeat([]byte{byte(i)}, i%4)
			is(t, "Append", d.Append(name, p), api.OK)
			is(t, "on paper", m.add(name, p), api.OK)
		}
		d.Crash(draw)
		m.crash(draw)
		if !slices.Equal(d.List(), m.names()) || d.Used() != m.used() {
			t.Errorf("draw %d: %d files of %d bytes, not %d of %d", draw, len(d.List()), d.Used(), len(m.names()), m.used())
		}
		for _, s := range m.sheets {
			if b, e := d.Read(s.name); e != api.OK || !bytes.Equal(b, s.b) {
				t.Errorf("draw %d: %q is %x, not %x", draw, s.name, b, s.b)
			}
		}
	}
}

// TestP4_4Behind is what is done behind a Crash: files grow where they end now, and only that does not last.
func TestP4_4Behind(t *testing.T) {
	d, m := laid(t, 100, of("a", "12345", 2), of("b", "6789", 1))
	d.Crash(1)
	m.crash(1)
	for _, name := range []string{"a", "b", "c"} {
		is(t, "Append", d.Append(name, []byte("xyz")), api.OK)
		is(t, "on paper", m.add(name, []byte("xyz")), api.OK)
	}
	isFile(t, "grown", d, "a", []byte("123xyz"), 3)
	isFile(t, "grown", d, "b", []byte("678xyz"), 3)
	agrees(t, "grown", d, m)
	d.Crash(2)
	m.crash(2)
	agrees(t, "crashed again", d, m)
}

// TestP4_5Rot is Rot of each byte by each other one, at the first and the last byte too.
func TestP4_5Rot(t *testing.T) {
	const b = "12345"
	for at := range len(b) {
		for by := range 256 {
			d, m := laid(t, 100, of("a", b, 2), of("b", b, 1))
			is(t, "Rot", d.Rot("a", at, byte(by)), api.OK)
			is(t, "on paper", m.rot("a", at, byte(by)), api.OK)
			agrees(t, "rotten", d, m)
			is(t, "Rot", d.Rot("a", at, byte(by)), api.OK)
			isFile(t, "and back", d, "a", []byte(b), 2)
		}
	}
	d, _ := laid(t, 100, of("a", b, 2))
	is(t, "the first byte", d.Rot("a", 0, 0x01), api.OK)
	is(t, "the last byte", d.Rot("a", 4, 0xff), api.OK)
	isFile(t, "both ends", d, "a", []byte{'0', '2', '3', '4', '5' ^ 0xff}, 2)
	d.Crash(0)
	isFile(t, "behind a Crash", d, "a", []byte("02"), 2)
}

// TestP4_5RotNone is Rot of bytes and of files that are not there.
func TestP4_5RotNone(t *testing.T) {
	d, m := laid(t, 100, of("a", "12345", 2), of("b", "", 0))
	for _, at := range []int{-1, -5, 5, 6, 1 << 32, math.MinInt, math.MaxInt} {
		for _, by := range []byte{0, 1, 0xff} {
			is(t, "no such byte", d.Rot("a", at, by), api.ErrNone)
			is(t, "no byte at all", d.Rot("b", at, by), api.ErrNone)
			is(t, "no such file", d.Rot("c", at, by), api.ErrNone)
			is(t, "a name that is none", d.Rot("", at, by), api.ErrNone)
		}
	}
	is(t, "the first of no bytes", d.Rot("b", 0, 1), api.ErrNone)
	is(t, "the first of no file", d.Rot("c", 0, 1), api.ErrNone)
	is(t, "what was cut", d.Cut("a", 3), api.OK)
	is(t, "on paper", m.cut("a", 3), api.OK)
	is(t, "what was cut", d.Rot("a", 3, 1), api.ErrNone)
	agrees(t, "refused", d, m)
}

// TestP4_5Copy is Copy: the same room, the same files, what lasts alike.
func TestP4_5Copy(t *testing.T) {
	for _, room := range []int{0, 9, 1000} {
		c := made(t, room).Copy()
		agrees(t, "a copy of nothing", c, &paper{room: room})
		is(t, "above its room", c.Append("a", make([]byte, room+1)), api.ErrFull)
		is(t, "its room", c.Append("a", make([]byte, room)), api.OK)
	}
	d, m := laid(t, 12, of("a", "12345", 2), of("b", "", 0), of("c", "678", 3), of("\xff", "9", 0))
	c := d.Copy()
	agrees(t, "a copy", c, m)
	agrees(t, "what was copied", d, m)
	agrees(t, "a copy of a copy", c.Copy(), m)
	is(t, "above its room", c.Append("a", make([]byte, 4)), api.ErrFull)
	is(t, "its room", c.Append("a", make([]byte, 3)), api.OK)
	for _, draw := range draws() {
		one, two := d.Copy(), d.Copy()
		one.Crash(draw)
		two.Crash(draw)
		n := m.copy()
		n.crash(draw)
		agrees(t, "a copy that crashed", one, n)
		agrees(t, "its twin", two, n)
	}
	agrees(t, "what was copied", d, m)
}

// change does each thing to a disk that has the files a, b and c.
func change(d *disk.Disk) {
	d.Append("a", []byte("xy"))
	d.Append("new", []byte("z"))
	d.Sync("a")
	d.Rot("a", 0, 0xff)
	d.Cut("b", 1)
	d.Append("b", []byte("v"))
	d.Rename("c", "d")
	d.Remove("c")
	d.Crash(3)
}

// TestP4_5Apart is that nothing done to a disk is seen in its copy, nor the other way round.
func TestP4_5Apart(t *testing.T) {
	d, m := laid(t, 100, of("a", "12345", 2), of("b", "67", 0), of("c", "89", 1))
	c := d.Copy()
	change(d)
	agrees(t, "the copy", c, m)
	changed := d.Copy()
	change(c)
	if !slices.Equal(c.List(), d.List()) || c.Used() != d.Used() {
		t.Errorf("%q of %d, not %q of %d", c.List(), c.Used(), d.List(), d.Used())
	}
	for _, name := range d.List() {
		b, _ := d.Read(name)
		if again, e := c.Read(name); e != api.OK || !bytes.Equal(b, again) {
			t.Errorf("%q: %x, not %x", name, again, b)
		}
		was, _ := changed.Read(name)
		if !bytes.Equal(b, was) {
			t.Errorf("%q: what was done to the copy is seen", name)
		}
	}
	// Bytes laid behind the same end, by both: the room behind it is not shared.
	one := d.Copy()
	is(t, "Append", d.Append("a", []byte("one")), api.OK)
	is(t, "Append", one.Append("a", []byte("two")), api.OK)
	b, _ := d.Read("a")
	other, _ := one.Read("a")
	if !bytes.HasSuffix(b, []byte("one")) || !bytes.HasSuffix(other, []byte("two")) {
		t.Errorf("%q and %q", b, other)
	}
}

// TestP4_6Synced is that what was synced stands behind any Crash, whatever is laid behind it and however often.
func TestP4_6Synced(t *testing.T) {
	for _, draw := range draws() {
		d := made(t, 1000)
		want := map[string]string{"a": "", "b": "", "c": ""}
		for i := range 10 {
			for name := range want {
				is(t, "Append", d.Append(name, []byte{byte(i), name[0]}), api.OK)
			}
			name := []string{"a", "b", "c"}[i%3]
			is(t, "Sync", d.Sync(name), api.OK)
			b, _ := d.Read(name)
			want[name] = string(b)
			if i%4 == 3 {
				d.Crash(draw)
			}
			for name, synced := range want {
				if b, e := d.Read(name); e != api.OK || !strings.HasPrefix(string(b), synced) {
					t.Errorf("draw %d: %q is %x, not from %x on", draw, name, b, synced)
				}
			}
		}
	}
}

// drawn are numbers that look drawn and are the same each time.
type drawn uint64

// below is a number from 0 to n - 1.
func (x *drawn) below(n int) int {
	*x = *x*6364136223846793005 + 1442695040888963407
	return int(uint64(*x) >> 33 % uint64(n))
}

// doOne does one thing to a disk, and the same on paper: what they answer.
func doOne(x *drawn, d *disk.Disk, m *paper) (string, api.Errno, api.Errno) {
	l := []string{"a", "b", "ab", "b~", "\xff", strings.Repeat("x", api.MaxName), "", strings.Repeat("x", api.MaxName+1)}
	name, other := l[x.below(len(l))], l[x.below(len(l))]
	n, by := x.below(9)-1, byte(x.below(256))
	p := bytes.Repeat([]byte{by}, n+1)
	switch x.below(16) {
	case 0, 1:
		return "Sync", d.Sync(name), m.sync(name)
	case 2:
		return "Rename", d.Rename(name, other), m.rename(name, other)
	case 3:
		return "Remove", d.Remove(name), m.remove(name)
	case 4, 5:
		return "Cut", d.Cut(name, n), m.cut(name, n)
	case 6, 7:
		return "Rot", d.Rot(name, n, by), m.rot(name, n, by)
	case 8:
		draw := x.below(100) - 10
		d.Crash(draw)
		m.crash(draw)
		return "Crash", api.OK, api.OK
	}
	return "Append", d.Append(name, p), m.add(name, p)
}

// TestP4_6 is a script of files that grow, are synced, cut, renamed, removed, rotten, crashed and copied: after each step all is as on paper, and Used the sum of the sizes.
func TestP4_6(t *testing.T) {
	for start := range 60 {
		x := drawn(start)
		room := []int{0, 5, 30, 1000}[start%4]
		d, m := made(t, room), &paper{room: room}
		old, oldM := d.Copy(), m.copy()
		for i := range 250 {
			name, e, want := doOne(&x, d, m)
			is(t, name, e, want)
			agrees(t, name, d, m)
			sum := 0
			for _, file := range d.List() {
				n, _ := d.Size(file)
				sum += n
			}
			if sum != d.Used() {
				t.Errorf("%s: %d bytes used, %d in files", name, d.Used(), sum)
			}
			if i%25 == 24 {
				agrees(t, "an old copy", old, oldM)
				// Now and then the copy goes on, and what was copied stays behind.
				old, oldM = d.Copy(), m.copy()
				if i%2 == 0 {
					d, old = old, d
				}
			}
			if t.Failed() {
				t.Fatalf("start %d, step %d", start, i)
			}
		}
	}
}
