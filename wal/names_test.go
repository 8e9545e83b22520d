package wal_test

import (
	"maps"
	"slices"
	"strings"
	"testing"

	"garner/api"
	"garner/wal"
)

// nearNames are such as a segment of the log would nearly have.
func nearNames() []string {
	l := []string{
		"log.0000001", "log.000000001", "log.0000000001", "log.1", "log.", "log", "log.0000000", "log.000000000", "log.100000000", "log.100000001",
		"log.+0000001", "log.-0000001", "log.0000001+", "log.+00000001", "log.-00000001", "log. 0000001", "log.0000001 ", "log.       1", "log.\t0000001", "log.0000001\n",
		"log.0000000a", "log.a0000001", "log.0x000001", "log.0b000001", "log.0o000001", "log.0000_001", "log.1_000_00", "log.000001e0", "log.1e000000", "log.0000001.", "log.000000.1", "log..0000001", "log..00000001",
		"log.0000000/", "log.0000000:", "log.:0000000", "log./0000001", "log.0000000\x00", "log.0000000\x01", "log.\x000000001", "log.0000000\xb1", "log.00000\u0661", "log.00\u0661\u0662\u0663", "log.\uff10\uff11\x30\x30", "log.0000000\xff",
		"log00000001", "log00000001.", "log,00000001", "log-00000001", "log/00000001", "log\x0000000001", "log.00000001~", "log.00000001 ", "log.00000001.", "log.00000001.00000001", "~log.00000001",
		"Log.00000001", "LOG.00000001", "lo.00000001", "lo..00000001", "logs.00000001", "log .00000001", "xlog.00000001", "og.00000001", "alog.00000001", "kog.00000001", "loh.00000001", "\x00log.00000001", "log\x00.00000001",
		".00000001", "00000001", "a.00000001", "00000000.00000001", "log.log.00000001", "log.0.00000001",
	}
	for _, c := range []byte(" !#+,-./:;?AFOXafox\x00\x1f\x7f\x80\xb0\xff") {
		for at := range 8 {
			l = append(l, "log."+strings.Repeat("0", at)+string([]byte{c})+strings.Repeat("1", 7-at))
		}
	}
	slices.Sort(l)
	return slices.Compact(l)
}

// TestP10_1Names is files whose names are nearly a segment's, alone and beside segments: none of them is read, Cut or Removed, whatever the log does.
func TestP10_1Names(t *testing.T) {
	for i, name := range nearNames() {
		for _, b := range [][]byte{segment(1, "x", "y"), segment(0, "x"), nil, row(20, 30)} {
			alone := map[string][]byte{name: b}
			asks(t, name, alone, alone, 1)
			beside := three(1 + i%3)
			beside[name] = b
			asks(t, name, beside, beside, 1+i%3, slices.Concat(lists()...)...)
		}
		// Names of which one byte is above all digits lie between these segments' names.
		for first := 5; first < 99999990; first = 10*first + 45 {
			beside := three(first)
			beside[name] = row(20, 39)
			asks(t, name, beside, beside, first, slices.Concat(lists()...)...)
		}
		torn := map[string][]byte{name: row(20, 31), "log.00000001": segment(1, "x", "y"), "log.00000007": segment(7, "z")}
		left := maps.Clone(torn)
		delete(left, "log.00000007")
		asks(t, name, torn, left, 1, "x", "y")
	}
}

// TestP10_1NamesStay is files whose names are nearly a segment's, of which not all lasts, beside a log of which all is Cut and Dropped.
func TestP10_1NamesStay(t *testing.T) {
	names := nearNames()
	for len(names) > 0 {
		d, m := made(t, 1<<20)
		some := names[:min(50, len(names))]
		names = names[len(some):]
		for i, name := range some {
			lay(t, d, m, name, segment(1, "x", "y"), i%20)
		}
		x := open(t, d, m, "log")
		x.bounds(1, 1)
		x.laid(row(1100, 32))
		x.laid(row(10, 33))
		x.sync()
		is(t, "Cut", x.cut(1), api.OK)
		x.laid(row(1100, 34))
		x.laid(row(10, 35))
		is(t, "Drop", x.drop(3), api.OK)
		x.crash(3)
		x.bounds(1, 1)
	}
}

// TestP10_1Other is logs of unlike prefixes on one disk, of which one is torn: an Open of the one leaves the other.
func TestP10_1Other(t *testing.T) {
	for _, other := range prefixes() {
		if other == "log" {
			continue
		}
		files := three(5)
		left := maps.Clone(files)
		left["log.00000009"] = segment(9, "five")
		files["log.00000009"] = append(segment(9, "five"), 0)
		delete(left, "log.00000010")
		for n, b := range map[int][]byte{1: segment(1, "a", "b"), 2: nil, 4: {1, 2, 3}, 11: segment(13, "c")} {
			files[named(other, n)] = b
			left[named(other, n)] = b
		}
		asks(t, other, files, left, 5, slices.Concat(lists()[:2]...)...)
	}
}

// TestP10_1Prefixes is prefixes of all lengths and of any bytes, with which a log is opened, goes on, and is opened again.
func TestP10_1Prefixes(t *testing.T) {
	l := prefixes()
	for n := 1; n <= api.MaxName-9; n++ {
		l = append(l, strings.Repeat("p", n))
	}
	for c := range 256 {
		l = append(l, string([]byte{byte(c)}), string([]byte{'.', byte(c), '.'}))
	}
	for _, prefix := range l {
		x := begun(t, 1<<16, prefix)
		x.bounds(1, 1)
		x.laid(row(1020, 36))
		x.laid([]byte("two"))
		x.files(prefix+".00000001", prefix+".00000002")
		x.sync()
		x.crash(0)
		x.bounds(1, 3)
	}
}

// TestP10_1Wrong is prefixes that are none, and a disk that is none: the disk stays as it is.
func TestP10_1Wrong(t *testing.T) {
	d, m := made(t, 1<<16)
	lay(t, d, m, ".00000001", segment(1, "x"), 3)
	lay(t, d, m, ".00000002", row(20, 37), 3)
	lay(t, d, m, "log.00000001", row(20, 38), 3)
	for _, prefix := range wrongPrefixes() {
		for _, disk := range []bool{true, false} {
			on := d
			if !disk {
				on = nil
			}
			if l, e := wal.Open(on, prefix); l != nil || e != api.ErrArg {
				t.Errorf("a prefix of %d bytes: error %d, not %d", len(prefix), e, api.ErrArg)
			}
			agrees(t, "a prefix that is none", d, m)
		}
	}
	for _, prefix := range prefixes() {
		if l, e := wal.Open(nil, prefix); l != nil || e != api.ErrArg {
			t.Errorf("no disk, %q: error %d, not %d", prefix, e, api.ErrArg)
		}
	}
}

// TestP10_2 is Bounds behind each call: of no entries, of some, behind Cut and Drop of all and of some, and behind a new Open of each.
func TestP10_2(t *testing.T) {
	x := begun(t, 1<<20, "log")
	x.bounds(1, 1)
	x.anew()
	x.bounds(1, 1)
	for i := range 6 {
		x.laid(row(600, uint64(i)))
		x.bounds(1, i+2)
	}
	x.anew()
	x.bounds(1, 7)
	is(t, "Drop", x.drop(4), api.OK)
	x.bounds(3, 7)
	is(t, "Cut", x.cut(6), api.OK)
	x.bounds(3, 6)
	x.anew()
	x.bounds(3, 6)
	is(t, "Cut", x.cut(3), api.OK)
	x.bounds(3, 3)
	x.laid([]byte("three"))
	x.bounds(3, 4)
	x.files("log.00000003")
	is(t, "Drop", x.drop(4), api.OK)
	x.bounds(4, 4)
	x.sync()
	x.bounds(4, 4)
	x.laid([]byte("four"))
	x.bounds(4, 5)
	x.anew()
	x.bounds(4, 5)
	is(t, "Drop", x.drop(5), api.OK)
	x.bounds(5, 5)
	x.anew()
	x.bounds(1, 1)
}
