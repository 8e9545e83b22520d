package wal_test

import (
	"bytes"
	"encoding/hex"
	"math"
	"slices"
	"strings"
	"testing"

	"garner/api"
	"garner/disk"
	"garner/wal"
)

// isBytes asks for a file's bytes, told in hexadecimal digits.
func isBytes(t *testing.T, d *disk.Disk, file, want string) {
	t.Helper()
	wanted, e := hex.DecodeString(strings.ReplaceAll(want, " ", ""))
	if e != nil {
		t.Fatal(e)
	}
	if b, e := d.Read(file); e != api.OK || !bytes.Equal(b, wanted) {
		t.Errorf("%q is %x, error %d, not %x", file, b, e, wanted)
	}
}

// TestP10_3 is logs of no, one and many entries of every size, over one, two and many segments, told on paper behind each call.
func TestP10_3(t *testing.T) {
	x := begun(t, 1<<20, "log")
	x.bounds(1, 1)
	x.files()
	for i := range 40 {
		x.laid(row(i*29%700, uint64(i)))
		x.bounds(1, i+2)
	}
	if n := len(x.d.List()); n < 5 {
		t.Errorf("%d segments", n)
	}
	x.sync()
}

// TestP10_3Bytes is what stands on the disk, byte by byte, worked out by hand.
func TestP10_3Bytes(t *testing.T) {
	x := begun(t, 1<<20, "log")
	for _, p := range []string{"a", "", "bc"} {
		x.laid([]byte(p))
	}
	x.files("log.00000001")
	isBytes(t, x.d, "log.00000001", "00 00 00 02 91 e8 15 42 01 61  00 00 00 01 31 37 a7 70 02  00 00 00 03 0e ef f7 0e 03 62 63")
}

// TestP10_3Numbers is entries whose numbers have one byte and two, worked out by hand.
func TestP10_3Numbers(t *testing.T) {
	x := begun(t, 1<<20, "log")
	for range 127 {
		x.laid(row(1015, 1))
	}
	x.laid([]byte("x"))
	isBytes(t, x.d, "log.00000128", "00 00 00 03 29 29 a3 5f 80 01 78")
	x.laid(row(1002, 2))
	for range 300 - 130 {
		x.laid(row(1014, 3))
		is(t, "Drop", x.drop(x.w.next), api.OK)
	}
	x.bounds(300, 300)
	x.laid([]byte{0})
	isBytes(t, x.d, "log.00000300", "00 00 00 03 6d 8d b6 16 ac 02 00")
	x.anew()
	x.bounds(300, 301)
}

// TestP10_3Segments is segments that have just SegBytes bytes, less and more, when the next entry comes, by one entry and by more.
func TestP10_3Segments(t *testing.T) {
	for size := 1000; size < 1050; size++ {
		x := begun(t, 1<<20, "log")
		x.laid(row(size-9, 4))
		x.laid([]byte("next"))
		y := begun(t, 1<<20, "log")
		y.laid(row(500, 5))
		y.laid(nil)
		y.laid(row(size-500-3*9, 6))
		y.laid([]byte("next"))
		if size < 1024 {
			x.files("log.00000001")
			y.files("log.00000001")
		} else {
			x.files("log.00000001", "log.00000002")
			y.files("log.00000001", "log.00000004")
		}
		x.anew()
		x.laid([]byte("behind a new Open"))
		y.laid(nil)
	}
}

// TestP10_3Empty is entries without a byte: each has a record, and so many of them fill a segment.
func TestP10_3Empty(t *testing.T) {
	x := begun(t, 1<<20, "log")
	for i := range 120 {
		x.laid([][]byte{nil, {}}[i%2])
	}
	x.files("log.00000001", "log.00000115")
	x.bounds(1, 121)
}

// TestP10_3Prefixes is logs of all prefixes that may be on one disk, with files of other names beside them: none of them sees another.
func TestP10_3Prefixes(t *testing.T) {
	d, m := made(t, 1<<22)
	lay(t, d, m, "other", row(30, 7), 20)
	lay(t, d, m, "log", nil, 0)
	var logs []*pair
	for _, prefix := range prefixes() {
		logs = append(logs, open(t, d, m, prefix))
	}
	for i := range 4 {
		for k, x := range logs {
			x.laid(row(300+i*k%400, uint64(i*100+k)))
			isLog(t, "beside others", logs[0].l, logs[0].w)
		}
	}
	for k, x := range logs {
		switch k % 4 {
		case 0:
			x.sync()
		case 1:
			is(t, "Cut", x.cut(2), api.OK)
		case 2:
			is(t, "Drop", x.drop(5), api.OK)
		}
	}
	for _, x := range logs {
		x.agrees("beside others")
		x.anew()
		x.laid([]byte("more"))
	}
}

// TestP10_3Long is entries of MaxFrame - 10 bytes, of some less and of more.
func TestP10_3Long(t *testing.T) {
	d, _ := made(t, 1<<24)
	l, e := wal.Open(d, "log")
	is(t, "Open", e, api.OK)
	next := 1
	var all [][]byte
	for _, over := range []int{0, 1, -1, 2, 3, -2, 10, 11, 100, 0} {
		p := row(api.MaxFrame-10+over, uint64(over+20))
		i, e := l.Append(p)
		if over > 0 {
			if i != 0 || e != api.ErrLong {
				t.Errorf("%d bytes too many: %d, error %d", over, i, e)
			}
			continue
		}
		if i != next || e != api.OK {
			t.Errorf("%d bytes: %d, error %d, not %d", len(p), i, e, next)
		}
		next++
		all = append(all, p)
	}
	for range 2 {
		if first, n := l.Bounds(); first != 1 || n != 5 || len(d.List()) != 4 {
			t.Errorf("Bounds are %d, %d, files %q", first, n, d.List())
		}
		for i, want := range all {
			if p, e := l.Get(i + 1); e != api.OK || !bytes.Equal(p, want) {
				t.Errorf("the entry %d: %d bytes, error %d", i+1, len(p), e)
			}
			if b, e := d.Read(named("log", i+1)); e != api.OK || !bytes.Equal(b, laid(i+1, want)) {
				t.Errorf("the file %d: %d bytes, error %d", i+1, len(b), e)
			}
		}
		l, e = wal.Open(d, "log")
		is(t, "a new Open", e, api.OK)
	}
}

// TestP10_3Room is a disk that has no room: nothing is laid, and a shorter entry is, till there is none for that one too.
func TestP10_3Room(t *testing.T) {
	for room := range 60 {
		x := begun(t, room, "log")
		for i := range 8 {
			x.append(row(i*5%13, uint64(i)))
			x.append(row(30, uint64(i)))
		}
		is(t, "no room", x.append(row(60, 8)), api.ErrFull)
		x.sync()
		is(t, "no room", x.append(row(60, 8)), api.ErrFull)
		x.anew()
	}
}

// TestP10_3NoSegment is a disk without room for an entry that is the first one of a new segment: it is not begun, and Cut and Drop make room.
func TestP10_3NoSegment(t *testing.T) {
	for _, more := range []int{0, 1, 8, 9, 10} {
		x := begun(t, 2*1030+more, "log")
		x.laid(row(1021, 9))
		x.laid(row(1021, 10))
		want := api.ErrFull
		if more >= 10 {
			want = api.OK
		}
		is(t, "a third one", x.append([]byte{1}), want)
		is(t, "one that is longer", x.append(row(500, 11)), api.ErrFull)
		x.sync()
		x.crash(0)
		is(t, "one that is longer", x.append(row(500, 11)), api.ErrFull)
		is(t, "Drop", x.drop(2), api.OK)
		x.laid(row(1010, 12))
		is(t, "one that is longer", x.append(row(500, 11)), api.ErrFull)
		is(t, "Cut", x.cut(3), api.OK)
		x.laid(row(500, 11))
		x.files("log.00000002", "log.00000003")
		x.bounds(2, 4)
	}
}

// TestP10_3NoFile is a disk with as many files as it may have: a new segment is not begun, an entry behind others is laid.
func TestP10_3NoFile(t *testing.T) {
	d, m := made(t, 1<<20)
	for n := range api.MaxFiles - 2 {
		lay(t, d, m, "file "+string(rune(0x4e00+n)), nil, 0)
	}
	x := open(t, d, m, "log")
	x.laid(row(1015, 13))
	x.laid(row(10, 14))
	x.laid(row(1000, 15))
	is(t, "no place", x.append(nil), api.ErrFull)
	y := open(t, d, m, "another")
	is(t, "no place", y.append(nil), api.ErrFull)
	y.bounds(1, 1)
	is(t, "Drop", x.drop(2), api.OK)
	y.laid(nil)
	is(t, "no place", x.append(nil), api.ErrFull)
	x.bounds(2, 4)
	is(t, "Cut", x.cut(3), api.OK)
	x.laid(row(20, 16))
}

// TestP10_3Last is numbers next to 99999999, with segments that begin there and ahead.
func TestP10_3Last(t *testing.T) {
	for first := 99999990; first < 99999999; first++ {
		for _, size := range []int{0, 400, 1100} {
			d, m := made(t, 1<<16)
			lay(t, d, m, named("log", first), laid(first, row(size, 17)), 0)
			x := open(t, d, m, "log")
			for n := first + 1; n < 99999999; n++ {
				x.laid(row(size, uint64(n)))
			}
			x.bounds(first, 99999999)
			x.isFull()
			x.anew()
			x.isFull()
			is(t, "Cut", x.cut(99999998), api.OK)
			x.laid([]byte("again"))
			x.isFull()
			x.sync()
			is(t, "Drop", x.drop(99999999), api.OK)
			x.bounds(99999999, 99999999)
			x.isFull()
			x.files()
		}
	}
}

// isFull asks whether there are no numbers left, for entries that would be laid and for such as are too long.
func (x *pair) isFull() {
	x.t.Helper()
	for _, p := range [][]byte{nil, {1}, row(1000, 18), make([]byte, api.MaxFrame-10)} {
		is(x.t, "no numbers", x.append(p), api.ErrFull)
	}
	is(x.t, "too long and no numbers", x.append(make([]byte, api.MaxFrame-9)), api.ErrLong)
}

// TestP10_3Behind is segments on the disk that have entries with numbers from 99999999 on, which no Append lays: they are read, and there are no numbers left.
func TestP10_3Behind(t *testing.T) {
	for _, first := range []int{99999997, 99999998, 99999999} {
		d, m := made(t, 1<<16)
		lay(t, d, m, named("log", first), segment(first, "a", "b", "c", "d"), 0)
		x := open(t, d, m, "log")
		x.bounds(first, first+4)
		x.isFull()
		is(t, "Cut", x.cut(first+3), api.OK)
		x.isFull()
	}
}

// TestP10_3Order is which error is named first, where more than one thing is wrong.
func TestP10_3Order(t *testing.T) {
	x := begun(t, 0, "log")
	is(t, "no room", x.append(nil), api.ErrFull)
	is(t, "no room", x.append(make([]byte, api.MaxFrame-10)), api.ErrFull)
	is(t, "too long and no room", x.append(make([]byte, api.MaxFrame-9)), api.ErrLong)
	var l *wal.Log
	for _, n := range []int{0, 1, api.MaxFrame - 10, api.MaxFrame - 9, api.MaxFrame + 1} {
		if i, e := l.Append(make([]byte, n)); i != 0 || e != api.ErrArg {
			t.Errorf("no log, %d bytes: %d, error %d", n, i, e)
		}
	}
}

// TestP10_3Sync is which entries last behind Append, Sync and Crash, in one segment and in more.
func TestP10_3Sync(t *testing.T) {
	for _, size := range []int{0, 1, 30, 300, 600, 1015, 1100} {
		x := begun(t, 1<<20, "log")
		x.sync()
		x.filled(5, size)
		x.sync()
		x.sync()
		x.filled(3, size)
		c, n := x.d.Copy(), x.m.copy()
		y := &pair{t, c, n, nil, &book{prefix: "log"}}
		y.crash(0)
		if _, next := y.l.Bounds(); next < 6 {
			t.Errorf("%d bytes each: %d came next", size, next)
		}
		x.sync()
		x.crash(0)
		x.bounds(1, 9)
	}
}

// TestP10_3Read is segments that an Open read and of which not all lasts: nothing of them does more till the Sync, all of it then.
func TestP10_3Read(t *testing.T) {
	for lasts := range 3 {
		d, m := made(t, 1<<16)
		for k := range 3 {
			b := segment(1+3*k, "one", "two", "three")
			lay(t, d, m, named("log", 1+3*k), b, len(b)*lasts/2)
		}
		x := open(t, d, m, "log")
		x.bounds(1, 10)
		c, n := d.Copy(), m.copy()
		y := open(t, c, n, "log")
		y.crash(0)
		if _, next := y.l.Bounds(); next != []int{1, 2, 10}[lasts] {
			t.Errorf("without a Sync %d comes next", next)
		}
		x.sync()
		x.crash(0)
		x.bounds(1, 10)
	}
}

// TestP10_3Alone is bytes that another one laid behind segments: a Sync and a Cut touch a segment only for what the log laid in it, or takes from it.
func TestP10_3Alone(t *testing.T) {
	x := begun(t, 1<<20, "log")
	x.filled(3, 600)
	x.sync()
	is(t, "Append of another one", x.d.Append("log.00000001", []byte("more")), api.OK)
	x.l.Append(row(600, 19))
	is(t, "Sync", x.l.Sync(), api.OK)
	is(t, "Cut", x.l.Cut(3), api.OK)
	if n, _ := x.d.Size("log.00000001"); n != 2*609+4 {
		t.Errorf("the first segment has %d bytes", n)
	}
	x.d.Crash(0)
	if n, _ := x.d.Size("log.00000001"); n != 2*609 {
		t.Errorf("the first segment has %d bytes that last", n)
	}
}

// TestP10_4 is every entry got, in any order and again, and none ahead of them or behind, whatever becomes of the disk.
func TestP10_4(t *testing.T) {
	x := begun(t, 1<<20, "log")
	var all [][]byte
	for i := range 60 {
		all = append(all, row(i*37%400, uint64(i)))
		x.laid(all[i])
	}
	gets := func(from int) {
		t.Helper()
		for k := range all {
			i := k*7%len(all) + 1
			if i < from {
				isNone(t, "dropped", x.l, i)
			} else if p, e := x.l.Get(i); e != api.OK || !bytes.Equal(p, all[i-1]) {
				t.Errorf("the entry %d is %.40x, error %d, not %.40x", i, p, e, all[i-1])
			}
		}
		for _, i := range []int{math.MinInt, math.MinInt + 1, -1 << 32, -1, 0, 61, 62, 1 << 32, 1<<32 + 1, math.MaxInt - 1, math.MaxInt} {
			isNone(t, "no entry", x.l, i)
		}
	}
	gets(1)
	x.anew()
	gets(1)
	is(t, "Drop", x.drop(30), api.OK)
	first, _ := x.l.Bounds()
	gets(first)
	for _, file := range x.d.List() {
		is(t, "Rot", x.d.Rot(file, 20, 0xff), api.OK)
	}
	gets(first)
	for _, file := range x.d.List() {
		is(t, "Remove", x.d.Remove(file), api.OK)
	}
	gets(first)
}

// TestExamples is the chapter's examples.
func TestExamples(t *testing.T) {
	x := begun(t, 1<<10, "log")
	for _, p := range []string{"a", "b"} {
		x.laid([]byte(p))
	}
	x.sync()
	x.laid([]byte("c"))
	x.crash(3)
	x.bounds(1, 3)
	is(t, "Cut", x.cut(2), api.OK)
	x.laid([]byte("x"))
	if p, e := x.l.Get(2); e != api.OK || !slices.Equal(p, []byte("x")) {
		t.Errorf("the entry 2 is %q, error %d", p, e)
	}
}
