package wal_test

import (
	"bytes"
	"encoding/binary"
	"maps"
	"slices"
	"strings"
	"testing"

	"garner/api"
	"garner/disk"
	"garner/wal"
)

// segment is a segment's bytes: entries with numbers from the first one on.
func segment(first int, entries ...string) []byte {
	var b []byte
	for i, p := range entries {
		b = append(b, laid(first+i, []byte(p))...)
	}
	return b
}

// asks lays files, all of which last, opens the log on them, and asks for the files that are left, byte by byte, for the Bounds and for the entries.
func asks(t *testing.T, name string, files, left map[string][]byte, first int, entries ...string) {
	t.Helper()
	d, m := made(t, 1<<23)
	for file, b := range files {
		lay(t, d, m, file, b, len(b))
	}
	l, e := wal.Open(d, "log")
	if l == nil || e != api.OK {
		t.Fatalf("%s: error %d", name, e)
	}
	if names := slices.Sorted(maps.Keys(left)); !slices.Equal(d.List(), names) {
		t.Errorf("%s: files %q, not %q", name, d.List(), names)
	}
	for file, want := range left {
		if b, _ := d.Read(file); !bytes.Equal(b, want) {
			t.Errorf("%s: %q is %.60x, not %.60x", name, file, b, want)
		}
	}
	if f, n := l.Bounds(); f != first || n != first+len(entries) {
		t.Errorf("%s: Bounds are %d, %d, not %d, %d", name, f, n, first, first+len(entries))
	}
	for i, want := range entries {
		if p, e := l.Get(first + i); e != api.OK || string(p) != want {
			t.Errorf("%s: the entry %d is %q, error %d, not %q", name, first+i, p, e, want)
		}
	}
	isNone(t, name, l, first-1)
	isNone(t, name, l, first+len(entries))
	agreesOnPaper(t, name, d, m)
	goesOn(t, name, d, l, first+len(entries))
}

// agreesOnPaper asks whether the Open that was done is that on paper, and whether another one finds nothing to be done.
func agreesOnPaper(t *testing.T, name string, d *disk.Disk, m *paper) {
	t.Helper()
	w := opened(m, "log")
	agrees(t, name, d, m)
	l, e := wal.Open(d, "log")
	is(t, name+": again", e, api.OK)
	isLog(t, name+": again", l, w)
	agrees(t, name+": again", d, m)
}

// goesOn asks whether an entry may be laid behind those that were read, lasts, and is read.
func goesOn(t *testing.T, name string, d *disk.Disk, l *wal.Log, next int) {
	t.Helper()
	i, e := l.Append([]byte("goes on"))
	if i != next || e != api.OK {
		t.Errorf("%s: Append is %d, error %d, not %d", name, i, e, next)
	}
	is(t, name+": Sync", l.Sync(), api.OK)
	d.Crash(0)
	l, _ = wal.Open(d, "log")
	if p, e := l.Get(next); e != api.OK || string(p) != "goes on" {
		t.Errorf("%s: the entry %d is %q, error %d", name, next, p, e)
	}
	if _, n := l.Bounds(); n != next+1 {
		t.Errorf("%s: %d comes next, not %d", name, n, next+1)
	}
}

// lists are three segments' entries; the numbers begin where the test says.
func lists() [][]string {
	return [][]string{{"one", "", "three", "4"}, {"five"}, {"six", strings.Repeat("7", 20), ""}}
}

// firstsOf are the first numbers of the segments that have these entries.
func firstsOf(first int, lists [][]string) []int {
	var l []int
	for _, entries := range lists {
		l = append(l, first)
		first += len(entries)
	}
	return l
}

// three are three segments' files.
func three(first int) map[string][]byte {
	files := map[string][]byte{}
	for k, n := range firstsOf(first, lists()) {
		files[named("log", n)] = segment(n, lists()[k]...)
	}
	return files
}

// spoilt asks for an Open where of the k-th of three segments another file stands, of which so many entries from the first one on are right: it is Cut behind them, or Removed, and those behind it are. One without a byte is neither.
func spoilt(t *testing.T, name string, first, k int, b []byte, right int) {
	t.Helper()
	firsts := firstsOf(first, lists())
	files := three(first)
	files[named("log", firsts[k])] = b
	left := map[string][]byte{}
	entries := slices.Concat(lists()[:k]...)
	for _, n := range firsts[:k] {
		left[named("log", n)] = files[named("log", n)]
	}
	if right > 0 {
		good := lists()[k][:right]
		left[named("log", firsts[k])] = segment(firsts[k], good...)
		entries = append(entries, good...)
	}
	if len(b) == 0 {
		left[named("log", firsts[k])] = nil
	} else if len(entries) == 0 {
		first = 1
	}
	asks(t, name, files, left, first, entries...)
}

// TestP10_1 is logs of no, one, two and three segments that are right, that begin with any number: nothing is Cut or Removed.
func TestP10_1(t *testing.T) {
	asks(t, "none", nil, nil, 1)
	for _, first := range []int{1, 2, 7, 9, 10, 99, 120, 126, 127, 128, 129, 999, 16380, 16384, 123456, 2097150, 9999999, 10000000, 87654321, 99999980} {
		firsts := firstsOf(first, lists())
		for k := range 3 {
			files := three(first)
			for _, n := range firsts[k+1:] {
				delete(files, named("log", n))
			}
			asks(t, "right ones", files, files, first, slices.Concat(lists()[:k+1]...)...)
		}
	}
}

// TestP10_1Long is a record that is as long as one may be, and holds an entry that is longer than any that an Append takes: its record is right.
func TestP10_1Long(t *testing.T) {
	long := strings.Repeat("l", api.MaxFrame-1)
	files := map[string][]byte{"log.00000005": segment(5, "five", long, "seven"), "log.00000008": segment(8, long[10:])}
	asks(t, "long ones", files, files, 5, "five", long, "seven", long[10:])
}

// TestP10_1Torn is segments that are torn at any byte: the first one, one in the middle, the last one.
func TestP10_1Torn(t *testing.T) {
	for _, first := range []int{1, 2, 126, 99999900} {
		for k, entries := range lists() {
			n := firstsOf(first, lists())[k]
			b := segment(n, entries...)
			for at := range b {
				right := 0
				for right < len(entries) && len(segment(n, entries[:right+1]...)) <= at {
					right++
				}
				spoilt(t, "torn", first, k, b[:at], right)
			}
		}
	}
}

// TestP10_1Rot is segments of which any one byte rotted.
func TestP10_1Rot(t *testing.T) {
	for _, first := range []int{1, 126} {
		for k, entries := range lists() {
			n := firstsOf(first, lists())[k]
			for at := range segment(n, entries...) {
				right := 0
				for len(segment(n, entries[:right+1]...)) <= at {
					right++
				}
				for _, by := range []byte{1, 2, 0x10, 0x80, 0xff} {
					b := segment(n, entries...)
					b[at] ^= by
					spoilt(t, "rotted", first, k, b, right)
				}
			}
		}
	}
}

// TestP10_1More is segments with bytes behind their records that are no record, or one cut short.
func TestP10_1More(t *testing.T) {
	for k, entries := range lists() {
		n := firstsOf(5, lists())[k]
		next := n + len(entries)
		for _, more := range [][]byte{{0}, {0xff}, make([]byte, 8), make([]byte, 40), row(30, 19), laid(next, []byte("next"))[:12], {0xff, 0xff, 0xff, 0xff, 0, 0, 0, 0, 1}, record(nil), []byte("log.00000005")} {
			spoilt(t, "more", 5, k, slices.Concat(segment(n, entries...), more), len(entries))
			spoilt(t, "more, and right ones behind", 5, k, slices.Concat(segment(n, entries...), more, segment(next, "next")), len(entries))
		}
	}
}

// wrongNumbers are bytes that are a record's number nowhere: it is another one, or none at all, or has digits behind it that no number has.
func wrongNumbers(n int) [][]byte {
	u := uint64(n)
	l := [][]byte{
		nil, {0x80}, {0xff, 0xff}, bytes.Repeat([]byte{0x80}, 9), bytes.Repeat([]byte{0xff}, 10), bytes.Repeat([]byte{0xff}, 11),
		append(bytes.Repeat([]byte{0xff}, 9), 2),
	}
	for _, v := range []uint64{0, u - 1, u + 1, u + 2, u + 10, u + 1<<7, u + 1<<8, u + 1<<16, u + 1<<31, u + 1<<32, u + 1<<62, u + 1<<63, -u, ^u, 1<<63 - 1, 1<<64 - 1} {
		if v != u {
			l = append(l, binary.AppendUvarint(nil, v))
		}
	}
	long := binary.AppendUvarint(nil, u)
	for len(long) < 11 {
		long = slices.Clone(long)
		long[len(long)-1] |= 0x80
		long = append(long, 0)
		l = append(l, long)
	}
	return l
}

// TestP10_1Numbers is segments in which any one record has a number that is wrong; its sum is right.
func TestP10_1Numbers(t *testing.T) {
	for _, first := range []int{1, 2, 126, 99999900} {
		for k, entries := range lists() {
			n := firstsOf(first, lists())[k]
			for right, p := range entries {
				for _, number := range wrongNumbers(n + right) {
					b := segment(n, entries[:right]...)
					b = append(b, record(append(number, p...))...)
					b = append(b, segment(n+right+1, entries[right+1:]...)...)
					spoilt(t, "a wrong number", first, k, b, right)
				}
			}
		}
	}
}

// TestP10_1Left is segments in which a number is left out, or comes twice, or all are moved.
func TestP10_1Left(t *testing.T) {
	for k, entries := range lists() {
		n := firstsOf(5, lists())[k]
		for right := range entries {
			head := segment(n, entries[:right]...)
			spoilt(t, "one left out", 5, k, slices.Concat(head, segment(n+right+1, "x", "y")), right)
			again := slices.Concat(segment(n, entries[:right+1]...), segment(n+right, entries[right:]...))
			spoilt(t, "one twice", 5, k, again, right+1)
		}
		for _, by := range []int{-4, -1, 1, 2, 100} {
			spoilt(t, "all moved", 5, k, segment(n+by, entries...), 0)
		}
	}
}

// TestP10_1Elsewhere is segments that are missing, come too early or too late: they are Removed with all behind them, whatever is in them.
func TestP10_1Elsewhere(t *testing.T) {
	files := three(5)
	names := slices.Sorted(maps.Keys(files))
	keep := func(n int) map[string][]byte {
		left := map[string][]byte{}
		for _, name := range names[:n] {
			left[name] = files[name]
		}
		return left
	}
	without := func(name string, more map[string][]byte) map[string][]byte {
		l := maps.Clone(files)
		delete(l, name)
		maps.Copy(l, more)
		return l
	}
	one, two := lists()[0], slices.Concat(lists()[:2]...)
	asks(t, "the first one missing", without(names[0], nil), without(names[0], nil), 9, slices.Concat(lists()[1:]...)...)
	asks(t, "the middle missing", without(names[1], nil), keep(1), 5, one...)
	asks(t, "the last one missing", without(names[2], nil), keep(2), 5, two...)
	for _, n := range []int{6, 7, 8, 10, 11} {
		for _, b := range [][]byte{segment(n, "x"), segment(n, "x", "y", "z"), segment(9, "five"), nil, {1, 2, 3}} {
			early := map[string][]byte{named("log", n): b}
			if n < 9 {
				asks(t, "one too early", without(names[1], early), keep(1), 5, one...)
				asks(t, "one too many", without("", early), keep(1), 5, one...)
			} else if n != 10 {
				asks(t, "one too late", without(names[2], early), keep(2), 5, two...)
				asks(t, "one too many", without("", early), without("", nil), 5, slices.Concat(lists()...)...)
			}
		}
	}
	asks(t, "one far behind", without("", map[string][]byte{"log.99999999": segment(99999999, "x")}), files, 5, slices.Concat(lists()...)...)
	asks(t, "one far ahead", without("", map[string][]byte{"log.00000001": segment(1, "x")}), map[string][]byte{"log.00000001": segment(1, "x")}, 1, "x")
}

// TestP10_1Zero is a segment that begins with the number 0, alone and ahead of right ones: it is Removed with all behind it, whatever is in it.
func TestP10_1Zero(t *testing.T) {
	others := map[string][]byte{"log.0000000": nil, "log.000000000": segment(0, "x"), "lpg.00000000": segment(1, "x"), "log.0000000~": row(20, 50), "log00000000": {1}}
	for _, b := range [][]byte{nil, {0}, []byte("x"), row(40, 51), segment(0, "x"), segment(0, "", "one", "two"), segment(1, "x", "y"), segment(0, strings.Repeat("x", 1100)), segment(0, "x")[:5]} {
		alone := maps.Clone(others)
		alone["log.00000000"] = b
		asks(t, "0 alone", alone, others, 1)
		for _, first := range []int{1, 2, 5, 99999900} {
			files := three(first)
			maps.Copy(files, alone)
			asks(t, "0 ahead", files, others, 1)
		}
		more := maps.Clone(alone)
		maps.Copy(more, map[string][]byte{"log.00000001": nil, "log.00000002": row(20, 52), "log.99999999": segment(99999999, "x")})
		asks(t, "0 ahead of wrong ones", more, others, 1)
	}
}

// TestP10_1ZeroOther is a segment that begins with the number 0 of a log of another prefix: it is no file of this one.
func TestP10_1ZeroOther(t *testing.T) {
	for _, other := range prefixes() {
		if other == "log" {
			continue
		}
		files := three(1)
		files[named(other, 0)] = segment(0, "x", "y")
		asks(t, other, files, files, 1, slices.Concat(lists()...)...)
	}
}

// TestP10_1ZeroLater is a segment that begins with the number 0 and comes while the log is open: the log goes on, and the next Open Removes all.
func TestP10_1ZeroLater(t *testing.T) {
	x := begun(t, 1<<16, "log")
	x.filled(4, 600)
	lay(t, x.d, x.m, "log.00000000", segment(0, "x"), 3)
	lay(t, x.d, x.m, "log", row(10, 53), 3)
	x.laid([]byte("more"))
	x.sync()
	is(t, "Cut", x.cut(2), api.OK)
	is(t, "Drop", x.drop(2), api.OK)
	x.files("log", "log.00000000")
	x.laid([]byte("two"))
	x.files("log", "log.00000000", "log.00000002")
	x.crash(3)
	x.files("log")
	x.bounds(1, 1)
	x.laid([]byte("one"))
	x.files("log", "log.00000001")
}
