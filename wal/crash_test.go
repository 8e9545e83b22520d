package wal_test

import (
	"bytes"
	"maps"
	"math"
	"testing"

	"garner/api"
	"garner/disk"
	"garner/wal"
)

// draws are numbers that Crash is given: around 0, small, at both ends of their type.
func draws() []int {
	l := []int{math.MinInt, -7, -1, 999, 1000, 1<<31 - 1, 1 << 31, 1 << 62, math.MaxInt - 1, math.MaxInt}
	for i := range 40 {
		l = append(l, i)
	}
	return l
}

// stands asks a log that was opened behind a Crash for entries that were laid, from the first one on: at least those that were Synced, of which the last one is told, and for no other ones. It tells which number comes next.
func stands(t *testing.T, name string, d *disk.Disk, first, synced int, all map[int][]byte) int {
	t.Helper()
	l, e := wal.Open(d, "log")
	is(t, name+": Open", e, api.OK)
	f, next := l.Bounds()
	if synced >= first && (f != first || next <= synced) {
		t.Errorf("%s: Bounds are %d, %d, of %d to %d that were Synced", name, f, next, first, synced)
	}
	for i := f; i < next; i++ {
		want, ok := all[i]
		if p, e := l.Get(i); !ok || e != api.OK || !bytes.Equal(p, want) {
			t.Errorf("%s: the entry %d is %.40x, error %d, not %.40x, %t", name, i, p, e, want, ok)
		}
	}
	isNone(t, name, l, f-1)
	isNone(t, name, l, next)
	return next
}

// TestP10_6 is logs with a Crash of any draw behind each number of entries that were Synced and laid: those that were Synced are there, and no other ones but those that were laid behind them.
func TestP10_6(t *testing.T) {
	for _, size := range []int{0, 3, 200, 400, 1015, 1200} {
		for synced := range 7 {
			for more := range 6 {
				d, _ := made(t, 1<<20)
				l, _ := wal.Open(d, "log")
				all := map[int][]byte{}
				for i := 1; i <= synced+more; i++ {
					all[i] = row(size+i, uint64(i))
					if _, e := l.Append(all[i]); e != api.OK {
						t.Fatalf("Append: error %d", e)
					}
					if i == synced {
						is(t, "Sync", l.Sync(), api.OK)
					}
				}
				for _, draw := range draws() {
					c := d.Copy()
					c.Crash(draw)
					next := stands(t, "crashed", c, 1, synced, all)
					c.Crash(draw + 1)
					if again := stands(t, "crashed again", c, 1, next-1, all); again != next {
						t.Errorf("%d came next, then %d", next, again)
					}
				}
			}
		}
	}
}

// TestP10_6Removed is a log of which segments were Cut or Dropped: no Crash brings an entry of them back.
func TestP10_6Removed(t *testing.T) {
	for i := 1; i <= 11; i++ {
		for _, draw := range draws() {
			x := parted(t, 1, true)
			x.l.Cut(i)
			x.d.Crash(draw)
			all := map[int][]byte{}
			for n, p := range x.w.entries {
				if n < i {
					all[n] = p
				}
			}
			if next := stands(t, "Cut", x.d, 1, i-1, all); next != max(i, 1) {
				t.Errorf("Cut at %d: then %d comes next", i, next)
			}
		}
	}
	for i, left := range []int{1, 1, 1, 4, 5, 5, 7, 7, 7, 7} {
		for _, draw := range draws() {
			x := parted(t, 1, true)
			x.l.Drop(i + 1)
			x.d.Crash(draw)
			if next := stands(t, "Drop", x.d, left, 10, x.w.entries); next != 11 {
				t.Errorf("Drop at %d: then %d comes next", i+1, next)
			}
		}
	}
}

// anything does something to a log, drawn, and to that on paper.
func (x *pair) anything(draws *drawn, step int) {
	x.t.Helper()
	span := x.w.next - x.w.first() + 3
	switch draws.below(12) {
	case 0, 1:
		x.sync()
	case 2:
		x.cut(x.w.next + 1 - draws.below(min(span, 8)))
	case 3:
		x.drop(x.w.first() - 1 + draws.below(span))
	case 4:
		x.crash(draws.below(2000) - 5)
	case 5:
		x.anew()
	case 6:
		if draws.below(4) == 0 {
			x.spoil(draws)
		}
	default:
		x.append(row([]int{0, 1, 20, 100, 300, 1000, 1100}[draws.below(7)], uint64(step)))
	}
}

// spoil spoils a file of the disk, and opens the log anew.
func (x *pair) spoil(draws *drawn) {
	x.t.Helper()
	names := x.m.names()
	if len(names) == 0 {
		return
	}
	name := names[draws.below(len(names))]
	s := x.m.files[name]
	switch draws.below(4) {
	case 0:
		is(x.t, "Remove", x.d.Remove(name), api.OK)
		delete(x.m.files, name)
	case 1:
		n := draws.below(len(s.b) + 1)
		is(x.t, "Cut", x.d.Cut(name, n), api.OK)
		x.m.cut(name, n)
	case 2:
		if len(s.b) == 0 {
			return
		}
		at := draws.below(len(s.b))
		by := byte(1 + draws.below(255))
		is(x.t, "Rot", x.d.Rot(name, at, by), api.OK)
		b := bytes.Clone(s.b)
		b[at] ^= by
		x.m.files[name] = sheet{b, s.last}
	default:
		p := row(draws.below(30), 44)
		is(x.t, "Append", x.d.Append(name, p), x.m.add(name, p))
	}
	x.anew()
}

// TestP10_6Drawn is scripts of all calls, with Crashes, Opens and files that are spoilt between them, on disks of small and great room, with two logs on each: behind each step both are as on paper.
func TestP10_6Drawn(t *testing.T) {
	for start := range 60 {
		x := drawn(start)
		d, m := made(t, []int{300, 3000, 9000, 1 << 20}[start%4])
		one, two := open(t, d, m, "log"), open(t, d, m, "log.")
		for step := range 120 {
			if x.below(3) > 0 {
				one.anything(&x, step)
				two.anew()
			} else {
				two.anything(&x, step)
				one.anew()
			}
			if t.Failed() {
				t.Fatalf("start %d, step %d", start, step)
			}
		}
	}
}

// TestP10_6Kept is scripts of all calls with Crashes between them, held against what was Synced alone.
func TestP10_6Kept(t *testing.T) {
	for start := range 60 {
		x := drawn(start + 1000)
		d, _ := made(t, 1<<20)
		l, _ := wal.Open(d, "log")
		all := map[int][]byte{}
		synced := 0
		for step := range 150 {
			first, next := l.Bounds()
			switch x.below(10) {
			case 0, 1:
				is(t, "Sync", l.Sync(), api.OK)
				synced = next - 1
			case 2:
				i := next - x.below(min(next-first+1, 5))
				is(t, "Cut", l.Cut(i), api.OK)
				synced = min(synced, i-1)
			case 3:
				is(t, "Drop", l.Drop(first+x.below(next-first+1)), api.OK)
			case 4:
				d.Crash(x.below(3000))
				next := stands(t, "a Crash", d, first, synced, all)
				synced = next - 1
				l, _ = wal.Open(d, "log")
			default:
				p := row([]int{0, 5, 80, 400, 1020}[x.below(5)], uint64(step))
				i, e := l.Append(p)
				if i != next || e != api.OK {
					t.Errorf("Append is %d, error %d, not %d", i, e, next)
				}
				all[i] = p
			}
			// What was Cut, Dropped or lost comes back no more.
			f, n := l.Bounds()
			maps.DeleteFunc(all, func(i int, _ []byte) bool { return i < f || i >= n })
			if t.Failed() {
				t.Fatalf("start %d, step %d", start, step)
			}
		}
	}
}
