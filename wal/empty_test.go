package wal_test

import (
	"maps"
	"slices"
	"strings"
	"testing"

	"garner/api"
)

// withEmpty are files, and one without a byte that begins with a number.
func withEmpty(files map[string][]byte, n int) map[string][]byte {
	l := map[string][]byte{named("log", n): nil}
	maps.Copy(l, files)
	return l
}

// emptied is a log that is opened on segments that begin with a number, as many as are told of three, with a segment without a byte behind them.
func emptied(t *testing.T, first, segments int) *pair {
	t.Helper()
	d, m := made(t, 1<<20)
	lay(t, d, m, "other", row(30, 60), 20)
	n := first
	for k, entries := range [][]string{{"one", "", strings.Repeat("3", 1100)}, {"four"}, {strings.Repeat("5", 40), "6"}}[:segments] {
		b := segment(n, entries...)
		lay(t, d, m, named("log", n), b, len(b)*(k+1)/3)
		n += len(entries)
	}
	lay(t, d, m, named("log", n), nil, 0)
	x := open(t, d, m, "log")
	x.bounds(first, n)
	if len(x.d.List()) != segments+2 {
		t.Fatalf("files %q", x.d.List())
	}
	return x
}

// TestP10_1Empty is a segment without a byte, alone, in the place of each of three, and behind them: it is neither Cut nor Removed, and what comes next is its number.
func TestP10_1Empty(t *testing.T) {
	for _, n := range []int{1, 2, 5, 7, 126, 127, 128, 999, 10000000, 99999997, 99999998} {
		files := withEmpty(nil, n)
		asks(t, "empty", files, files, n)
	}
	for _, first := range []int{1, 2, 126, 99999900} {
		for k := range 3 {
			spoilt(t, "empty", first, k, nil, 0)
		}
		files := withEmpty(three(first), first+8)
		asks(t, "empty behind right ones", files, files, first, slices.Concat(lists()...)...)
	}
}

// TestP10_1EmptyFirst is a segment without a byte ahead of others: these should have begun with its number, and are Removed, whatever is in them.
func TestP10_1EmptyFirst(t *testing.T) {
	for _, n := range []int{1, 4, 99999900} {
		left := withEmpty(nil, n)
		for _, b := range [][]byte{nil, segment(n+1, "x", "y"), segment(n, "x", "y"), segment(n+2, "z"), {1, 2, 3}, row(30, 61)} {
			for by := 1; by < 4; by++ {
				files := withEmpty(nil, n)
				files[named("log", n+by)] = b
				asks(t, "one behind", files, left, n)
				files[named("log", n+by+2)] = segment(n+by+2, "w")
				asks(t, "two behind", files, left, n)
			}
		}
	}
	many := map[string][]byte{}
	for n := 2; n < 20; n++ {
		many[named("log", n)] = nil
	}
	asks(t, "many", many, withEmpty(nil, 2), 2)
}

// TestP10_1EmptyElsewhere is a segment without a byte that does not begin where the one ahead of it ends: it is Removed with all behind it.
func TestP10_1EmptyElsewhere(t *testing.T) {
	for _, first := range []int{1, 5, 99999900} {
		firsts := firstsOf(first, lists())
		for n := first + 1; n < first+13; n++ {
			if slices.Contains(firsts, n) || n == first+8 {
				continue
			}
			ahead, _ := slices.BinarySearch(firsts, n)
			left := map[string][]byte{}
			for k, f := range firsts[:ahead] {
				left[named("log", f)] = segment(f, lists()[k]...)
			}
			asks(t, "elsewhere", withEmpty(three(first), n), left, first, slices.Concat(lists()[:ahead]...)...)
		}
	}
	asks(t, "the number 0", withEmpty(withEmpty(nil, 0), 1), nil, 1)
}

// TestP10_1EmptyTorn is a segment without a byte behind one that is Cut or Removed: it is Removed, though it begins with the number that comes next.
func TestP10_1EmptyTorn(t *testing.T) {
	for _, first := range []int{1, 2, 126} {
		for right, entries := range [][]string{nil, {"x"}, {"x", "y"}} {
			next := first + right
			b := segment(first, entries...)
			for _, more := range [][]byte{{0}, make([]byte, 8), laid(next, []byte("z"))[:9], laid(next+1, []byte("z")), row(30, 70)} {
				files := map[string][]byte{named("log", first): slices.Concat(b, more)}
				if right == 0 {
					asks(t, "nothing is left", withEmpty(files, next+1), nil, 1)
				} else {
					left := map[string][]byte{named("log", first): b}
					asks(t, "torn", withEmpty(files, next), left, first, entries...)
				}
			}
		}
	}
}

// TestP10_1EmptyLast is segments without a byte with the greatest numbers that a name tells: no entry is laid with the number 99999999.
func TestP10_1EmptyLast(t *testing.T) {
	x := begun(t, 1<<16, "log")
	lay(t, x.d, x.m, "log.99999999", nil, 0)
	x.anew()
	x.bounds(99999999, 99999999)
	x.isFull()
	x.files("log.99999999")
	is(t, "Cut", x.cut(99999999), api.OK)
	x.bounds(99999999, 99999999)
	x.isFull()
	x.files()

	for first := 99999996; first <= 99999998; first++ {
		for entries := 1; entries <= 4; entries++ {
			x := begun(t, 1<<16, "log")
			b := segment(first, []string{"w", "x", "y", "z"}[:entries]...)
			lay(t, x.d, x.m, named("log", first), b, len(b))
			lay(t, x.d, x.m, "log.99999999", nil, 0)
			x.anew()
			x.bounds(first, first+entries)
			if first+entries == 99999999 {
				x.files(named("log", first), "log.99999999")
				x.isFull()
				is(t, "Drop", x.drop(99999999), api.OK)
				x.isFull()
				x.files()
			} else {
				x.files(named("log", first))
			}
		}
	}
}

// TestP10_2Empty is Bounds of a log whose Open found a segment without a byte, and of one whose Open found a segment of which nothing is left.
func TestP10_2Empty(t *testing.T) {
	for _, n := range []int{1, 2, 5, 300} {
		x := begun(t, 1<<16, "log")
		lay(t, x.d, x.m, named("log", n), nil, 0)
		x.anew()
		x.bounds(n, n)
		x.anew()
		x.bounds(n, n)
		x.laid([]byte("laid"))
		x.bounds(n, n+1)
		x.crash(0)
		x.bounds(n, n)
		lay(t, x.d, x.m, named("log", n), []byte{7}, 1)
		x.anew()
		x.bounds(1, 1)
		x.files()
	}
}

// TestP10_3EmptySegment is entries laid where the last segment has no byte: in that one, however many bytes the one ahead of it has, and in a new one when it has SegBytes.
func TestP10_3EmptySegment(t *testing.T) {
	for _, size := range []int{0, 1, 500, 1014, 1015, 1016, 1100} {
		x := begun(t, 1<<20, "log")
		x.laid(row(size, 62))
		x.sync()
		lay(t, x.d, x.m, "log.00000002", nil, 0)
		x.anew()
		x.files("log.00000001", "log.00000002")
		x.bounds(1, 2)
		x.laid(nil)
		x.laid(row(1005, 63))
		x.files("log.00000001", "log.00000002")
		x.laid(row(1, 64))
		x.files("log.00000001", "log.00000002")
		x.laid(row(10, 65))
		x.files("log.00000001", "log.00000002", "log.00000005")
		if n, _ := x.d.Size("log.00000001"); n != 9+size {
			t.Errorf("the first segment has %d bytes, not %d", n, 9+size)
		}
		x.bounds(1, 6)
		is(t, "Drop", x.drop(4), api.OK)
		x.files("log.00000002", "log.00000005")
		x.bounds(2, 6)
		x.sync()
		x.crash(0)
		x.bounds(2, 6)
	}
}

// TestP10_3EmptySync is segments that were read, with one without a byte behind them, to which another one lays bytes: the first Sync Syncs them all, the next one none.
func TestP10_3EmptySync(t *testing.T) {
	for segments := range 4 {
		x := emptied(t, 5, segments)
		last := x.d.List()[segments]
		more := segment(x.w.next, "laid by another one")
		is(t, "Append of another one", x.d.Append(last, more), x.m.add(last, more))
		x.sync()
		is(t, "Append of another one", x.d.Append(last, []byte{1}), x.m.add(last, []byte{1}))
		x.sync()
		x.crash(0)
		if n, _ := x.d.Size(last); n != len(more) {
			t.Errorf("%q has %d bytes that last, not %d", last, n, len(more))
		}
		x.bounds(x.w.first(), x.w.next)
	}
}

// TestP10_3EmptyRefused is a disk without room for an entry, or without a place for a file, where the last segment has no byte.
func TestP10_3EmptyRefused(t *testing.T) {
	x := begun(t, 60, "log")
	x.laid(row(21, 66))
	lay(t, x.d, x.m, "log.00000002", nil, 0)
	x.anew()
	is(t, "no room", x.append(row(22, 67)), api.ErrFull)
	is(t, "too long", x.append(make([]byte, api.MaxFrame-9)), api.ErrLong)
	x.bounds(1, 2)
	x.files("log.00000001", "log.00000002")
	x.laid(row(21, 67))

	d, m := made(t, 1<<20)
	for n := range api.MaxFiles - 1 {
		lay(t, d, m, "file "+string(rune(0x4e00+n)), nil, 0)
	}
	lay(t, d, m, "log.00000003", nil, 0)
	x = open(t, d, m, "log")
	x.laid(row(1015, 68))
	is(t, "no place", x.append(nil), api.ErrFull)
	x.bounds(3, 4)
}

// TestP10_5EmptyCut is Cuts at every number of a log whose last segment has no byte: it is Removed by each of them.
func TestP10_5EmptyCut(t *testing.T) {
	for _, first := range []int{1, 2, 124, 99999900} {
		for segments, entries := range []int{0, 3, 4, 6} {
			for by := range entries + 1 {
				x := emptied(t, first, segments)
				empty := named("log", x.w.next)
				is(t, "Cut", x.cut(first+by), api.OK)
				x.bounds(first, first+by)
				if _, ok := x.d.Size(empty); ok {
					t.Errorf("Cut at %d leaves %q", first+by, empty)
				}
				is(t, "Cut again", x.cut(first+by), api.OK)
				x.goOn()
			}
		}
	}
}

// TestP10_5EmptyDrop is Drops at every number of a log whose last segment has no byte: it is Removed by that of the number that comes next alone.
func TestP10_5EmptyDrop(t *testing.T) {
	for _, first := range []int{1, 2, 124, 99999900} {
		for segments, entries := range []int{0, 3, 4, 6} {
			for by, left := range []int{0, 0, 0, 3, 4, 4, 6}[:entries+1] {
				x := emptied(t, first, segments)
				empty := named("log", x.w.next)
				is(t, "Drop", x.drop(first+by), api.OK)
				x.bounds(first+left, first+entries)
				if _, ok := x.d.Size(empty); ok != (by < entries) {
					t.Errorf("Drop at %d of %d entries: there is %q: %t", first+by, entries, empty, ok)
				}
				is(t, "Drop again", x.drop(first+by), api.OK)
				x.goOn()
			}
		}
	}
}

// TestP10_5EmptyOutside is numbers that are none of the log's, whose last segment has no byte.
func TestP10_5EmptyOutside(t *testing.T) {
	for _, first := range firsts() {
		for segments := range 4 {
			emptied(t, first, segments).areOutside()
		}
	}
}

// TestP10_6Empty is Crashes that leave no byte of the last segment: what was Synced is there, no number comes again that was taken ahead of it, and the log goes on.
func TestP10_6Empty(t *testing.T) {
	x := begun(t, 1<<20, "log")
	x.laid([]byte("a"))
	x.crash(0)
	x.files("log.00000001")
	x.bounds(1, 1)
	x.filled(3, 600)
	x.sync()
	x.laid(row(600, 69))
	is(t, "Drop", x.drop(3), api.OK)
	x.crash(0)
	x.files("log.00000003")
	x.bounds(3, 4)
	is(t, "Drop", x.drop(4), api.OK)
	x.laid([]byte("four"))
	x.crash(0)
	x.files("log.00000004")
	x.bounds(4, 4)
	x.laid([]byte("four again"))
	x.sync()
	x.crash(5)
	x.bounds(4, 5)
}
