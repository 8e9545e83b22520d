package wal_test

import (
	"math"
	"slices"
	"testing"

	"garner/api"
	"garner/disk"
	"garner/wal"
)

// parted is a log that begins with a number, of four segments of three, one, two and four entries.
func parted(t *testing.T, first int, synced bool) *pair {
	t.Helper()
	d, m := made(t, 1<<20)
	lay(t, d, m, "other", row(30, 40), 20)
	lay(t, d, m, named("log", first), laid(first, row(490, 41)), 7)
	x := open(t, d, m, "log")
	for i, n := range []int{490, 20, 1200, 1000, 10, 1, 0, 1, 0} {
		x.laid(row(n, uint64(50+i)))
	}
	if synced {
		x.sync()
	}
	if !slices.Equal(x.w.files, []int{first, first + 3, first + 4, first + 6}) {
		t.Fatalf("segments begin at %d", x.w.files)
	}
	return x
}

// outside are numbers that no Cut and no Drop takes, where the entries go from first to next.
func outside(first, next int) []int {
	return []int{
		math.MinInt, math.MinInt + 1, math.MinInt32, -next, -1, first - 2, first - 1, next + 1, next + 2, 99999999, 100000000, math.MaxInt32, 1<<32 + first, math.MaxInt - 1, math.MaxInt,
	}
}

// firsts are numbers with which logs begin.
func firsts() []int { return []int{1, 2, 3, 124, 99999900} }

// goOn lays entries behind what was left, asks a new Open, and lays some more.
func (x *pair) goOn() {
	x.t.Helper()
	x.laid([]byte("behind"))
	x.laid(row(1100, 42))
	x.anew()
	x.laid([]byte("behind a new Open"))
	x.sync()
	x.crash(1)
}

// TestP10_5Cut is Cuts at every entry of a log of four segments, with what is left of each file, and Appends behind.
func TestP10_5Cut(t *testing.T) {
	for _, first := range firsts() {
		for by := range 11 {
			for _, synced := range []bool{true, false} {
				x := parted(t, first, synced)
				is(t, "Cut", x.cut(first+by), api.OK)
				x.bounds(first, first+by)
				is(t, "Cut again", x.cut(first+by), api.OK)
				x.goOn()
			}
		}
	}
}

// TestP10_5CutFiles is the files that a Cut leaves, by hand.
func TestP10_5CutFiles(t *testing.T) {
	for by, want := range [][]string{
		{"other"},
		{"log.00000001", "other"},
		{"log.00000001", "other"},
		{"log.00000001", "other"},
		{"log.00000001", "log.00000004", "other"},
		{"log.00000001", "log.00000004", "log.00000005", "other"},
		{"log.00000001", "log.00000004", "log.00000005", "other"},
		{"log.00000001", "log.00000004", "log.00000005", "log.00000007", "other"},
	} {
		x := parted(t, 1, true)
		is(t, "Cut", x.cut(1+by), api.OK)
		x.files(want...)
		size, _ := x.d.Size("log.00000001")
		if wanted := []int{0, 499, 998, 1027}[min(by, 3)]; size != wanted {
			t.Errorf("Cut at %d: the first segment has %d bytes, not %d", 1+by, size, wanted)
		}
	}
}

// TestP10_5Drop is Drops at every entry of a log of four segments, with the files that are left, and Appends behind.
func TestP10_5Drop(t *testing.T) {
	for _, first := range firsts() {
		for by, left := range []int{0, 0, 0, 3, 4, 4, 6, 6, 6, 6, 10} {
			for _, synced := range []bool{true, false} {
				x := parted(t, first, synced)
				is(t, "Drop", x.drop(first+by), api.OK)
				x.bounds(first+left, first+10)
				is(t, "Drop again", x.drop(first+by), api.OK)
				x.bounds(first+left, first+10)
				x.goOn()
			}
		}
	}
}

// TestP10_5DropFiles is the files that a Drop leaves, by hand.
func TestP10_5DropFiles(t *testing.T) {
	all := []string{"log.00000001", "log.00000004", "log.00000005", "log.00000007", "other"}
	for by, gone := range []int{0, 0, 0, 1, 2, 2, 3, 3, 3, 3, 4} {
		x := parted(t, 1, true)
		is(t, "Drop", x.drop(1+by), api.OK)
		x.files(all[gone:]...)
	}
}

// TestP10_5Both is a Cut behind a Drop and a Drop behind a Cut, at every two entries.
func TestP10_5Both(t *testing.T) {
	for one := 1; one <= 11; one++ {
		for two := 1; two <= 11; two++ {
			x := parted(t, 1, true)
			x.drop(one)
			x.cut(two)
			x.laid([]byte("behind"))
			y := parted(t, 1, false)
			y.cut(one)
			y.drop(two)
			y.laid([]byte("behind"))
		}
	}
}

// TestP10_5One is Cut and Drop of a log of one segment, which is not Dropped unless all of it is.
func TestP10_5One(t *testing.T) {
	for i := 1; i <= 4; i++ {
		x := begun(t, 1<<10, "log")
		x.filled(3, 5)
		is(t, "Drop", x.drop(i), api.OK)
		y := begun(t, 1<<10, "log")
		y.filled(3, 5)
		is(t, "Cut", y.cut(i), api.OK)
		y.bounds(1, i)
		if i < 4 {
			x.bounds(1, 4)
			x.files("log.00000001")
		} else {
			x.bounds(4, 4)
			x.files()
		}
	}
}

// TestP10_5None is a log without an entry: of its only number Cut and Drop are done, and nothing happens.
func TestP10_5None(t *testing.T) {
	x := begun(t, 1<<16, "log")
	for range 2 {
		for range 2 {
			is(t, "Cut", x.cut(x.w.next), api.OK)
			is(t, "Drop", x.drop(x.w.next), api.OK)
			x.areOutside()
		}
		x.filled(3, 900)
		is(t, "Drop", x.drop(4), api.OK)
		x.bounds(4, 4)
		is(t, "Cut", x.cut(4), api.OK)
		is(t, "Drop", x.drop(4), api.OK)
		x.areOutside()
		x.filled(2, 900)
		is(t, "Cut", x.cut(4), api.OK)
		x.bounds(4, 4)
		x.anew()
		x.bounds(1, 1)
	}
}

// areOutside asks whether Cut and Drop of numbers that are none of the log's are refused, and whether nothing happens then.
func (x *pair) areOutside() {
	x.t.Helper()
	first, next := x.l.Bounds()
	for _, i := range outside(first, next) {
		if first <= i && i <= next {
			continue
		}
		is(x.t, "Cut outside", x.cut(i), api.ErrArg)
		is(x.t, "Drop outside", x.drop(i), api.ErrArg)
	}
	x.bounds(first, next)
}

// TestP10_5Outside is numbers ahead of the first entry and behind the next one, the least and the greatest.
func TestP10_5Outside(t *testing.T) {
	for _, first := range firsts() {
		x := parted(t, first, first%2 == 0)
		x.areOutside()
		is(t, "Drop", x.drop(first+5), api.OK)
		x.areOutside()
		is(t, "Cut", x.cut(first+8), api.OK)
		x.areOutside()
		x.anew()
		x.areOutside()
		is(t, "Cut", x.cut(first+4), api.OK)
		x.areOutside()
	}
}

// TestP10_5Last is what lasts of a segment that was Cut: what did, and no more till the Sync.
func TestP10_5Last(t *testing.T) {
	for cut := 1; cut <= 7; cut++ {
		for synced := range 7 {
			for _, draw := range []int{0, 1, 2, 5} {
				x := begun(t, 1<<16, "log")
				for i := range 6 {
					if i == synced {
						x.sync()
					}
					x.laid(row(i*3, uint64(i)))
				}
				is(t, "Cut", x.cut(cut), api.OK)
				x.laid([]byte("behind"))
				y := &pair{t, x.d.Copy(), x.m.copy(), nil, &book{prefix: "log"}}
				y.crash(draw)
				x.sync()
				x.crash(draw)
				x.bounds(1, cut+1)
			}
		}
	}
}

// TestW2Twins is that two logs to which the same is done, on two disks, answer the same.
func TestW2Twins(t *testing.T) {
	x, y := begun(t, 9000, "log"), begun(t, 9000, "log")
	one, two := drawn(43), drawn(43)
	for step := range 400 {
		x.anything(&one, step)
		y.anything(&two, step)
		hasFiles(t, "its twin", y.d, x.m)
		isLog(t, "its twin", y.l, x.w)
	}
}

// TestW9 is disks of which others took bytes or files away while the log was open: no call panics.
func TestW9(t *testing.T) {
	spoils := []func(d *disk.Disk, file string){
		func(d *disk.Disk, file string) { d.Remove(file) },
		func(d *disk.Disk, file string) { d.Cut(file, 3) },
		func(d *disk.Disk, file string) { d.Crash(0) },
		func(d *disk.Disk, file string) { d.Rename(file, "elsewhere") },
		func(d *disk.Disk, file string) { d.Rename("other", file) },
	}
	for _, spoil := range spoils {
		for k := range 4 {
			for i := 0; i < 12; i++ {
				x := parted(t, 1, false)
				spoil(x.d, x.d.List()[k])
				x.l.Sync()
				x.l.Get(i)
				x.l.Cut(11 - i)
				x.l.Append(row(100, 60))
				spoil(x.d, x.d.List()[0])
				x.l.Drop(i)
				x.l.Append(row(100, 61))
				x.l.Cut(i)
				x.l.Sync()
				x.l.Bounds()
			}
		}
	}
}

// TestP10_7Nil is a nil Log: to Append, Sync, Cut and Drop an argument that is none, to Get one without an entry, and Bounds are 0, 0.
func TestP10_7Nil(t *testing.T) {
	var l *wal.Log
	for range 2 {
		is(t, "Sync", l.Sync(), api.ErrArg)
		for _, p := range [][]byte{nil, {}, {1}, make([]byte, api.MaxFrame)} {
			if i, e := l.Append(p); i != 0 || e != api.ErrArg {
				t.Errorf("Append is %d, error %d", i, e)
			}
		}
		for _, i := range append(outside(1, 1), 0, 1) {
			is(t, "Cut", l.Cut(i), api.ErrArg)
			is(t, "Drop", l.Drop(i), api.ErrArg)
			isNone(t, "no log", l, i)
		}
		if first, next := l.Bounds(); first != 0 || next != 0 {
			t.Errorf("Bounds are %d, %d", first, next)
		}
	}
}

// TestW1Zero is a Log that no Open made: no call of it panics.
func TestW1Zero(t *testing.T) {
	var l wal.Log
	for range 3 {
		l.Append(nil)
		l.Append(make([]byte, 2000))
		l.Sync()
		for _, i := range outside(0, 0) {
			l.Get(i)
			l.Cut(i)
			l.Drop(i)
		}
		l.Bounds()
		l.Cut(0)
		l.Drop(0)
	}
}
