package disk_test

import (
	"math"
	"slices"
	"strconv"
	"strings"
	"testing"

	"garner/api"
	"garner/disk"
)

// maxRoom is the greatest room.
const maxRoom = 1 << 30

// names are names of files, rising: the shortest, the longest, of any bytes.
func names() []string {
	long := strings.Repeat("x", api.MaxName)
	return []string{"\x00", "\x00\x00", " ", "/", "A", "a", "a\x00", "a.00000001", "a/b", "aa", "a~", "b", "x", long[1:], long, "ä", "\xff", strings.Repeat("\xff", api.MaxName)}
}

// wrongNames are none that a file may have.
func wrongNames() []string {
	return []string{"", strings.Repeat("x", api.MaxName+1), strings.Repeat("\x00", api.MaxName+1), strings.Repeat("ä", api.MaxName/2) + "a", strings.Repeat("x", 1<<20)}
}

// TestP4_1Room is New of rooms at both ends, and beside them.
func TestP4_1Room(t *testing.T) {
	for _, room := range []int{math.MinInt, -1 << 40, -2, -1, maxRoom + 1, maxRoom + 2, 1 << 31, 1 << 32, 1<<32 + 5, math.MaxInt} {
		if d, e := disk.New(room); d != nil || e != api.ErrArg {
			t.Errorf("a room of %d: %v, error %d", room, d, e)
		}
	}
	for _, room := range []int{0, 1, 2, 1 << 20, maxRoom - 1, maxRoom} {
		d := made(t, room)
		agrees(t, "a disk of nothing", d, &paper{room: room})
		isNone(t, "a disk of nothing", d, "a")
		is(t, "no bytes", d.Append("a", nil), api.OK)
		isFile(t, "no bytes", d, "a", nil, 0)
	}
}

// TestP4_1Great is Append of many bytes to disks with the greatest rooms, and just above a great one.
func TestP4_1Great(t *testing.T) {
	p := make([]byte, 1<<23)
	for _, room := range []int{1 << 23, maxRoom - 1, maxRoom} {
		d := made(t, room)
		is(t, "many bytes", d.Append("a", p), api.OK)
		if room == len(p) {
			is(t, "one more", d.Append("b", p[:1]), api.ErrFull)
			is(t, "as many again", d.Append("b", p), api.ErrFull)
			continue
		}
		is(t, "as many again", d.Append("b", p), api.OK)
		if d.Used() != 2*len(p) {
			t.Errorf("a room of %d: %d bytes", room, d.Used())
		}
	}
}

// TestP4_1Append is Append to files that are there and that are not, of no byte, of one, of many.
func TestP4_1Append(t *testing.T) {
	d, m := made(t, 1<<20), &paper{room: 1 << 20}
	for i, p := range []string{"", "1", "", "234", "5", strings.Repeat("6789", 5000), ""} {
		for _, name := range []string{"b", "a", "c"} {
			if name == "c" && i < 3 {
				continue
			}
			is(t, "some bytes", d.Append(name, []byte(p)), api.OK)
			is(t, "on paper", m.add(name, []byte(p)), api.OK)
			agrees(t, "behind "+strconv.Itoa(len(p)), d, m)
		}
	}
	is(t, "nil, to a new one", d.Append("d", nil), api.OK)
	is(t, "no bytes, to a new one", d.Append("e", []byte{}), api.OK)
	is(t, "on paper", m.add("d", nil), api.OK)
	is(t, "on paper", m.add("e", nil), api.OK)
	agrees(t, "files of no bytes", d, m)
	b, e := d.Read("a")
	if want := "12345" + strings.Repeat("6789", 5000); e != api.OK || string(b) != want {
		t.Errorf("%d bytes, error %d", len(b), e)
	}
}

// TestP4_1Names is Append to names of one byte, of MaxName, of any bytes; and to names that are none.
func TestP4_1Names(t *testing.T) {
	d, m := made(t, 1000), &paper{room: 1000}
	for i, name := range names() {
		p := []byte(strconv.Itoa(i))
		is(t, strconv.Quote(name), d.Append(name, p), api.OK)
		is(t, "on paper", m.add(name, p), api.OK)
	}
	for _, name := range wrongNames() {
		for _, p := range [][]byte{nil, {1}, make([]byte, 1001)} {
			is(t, "Append to a name that is none", d.Append(name, p), api.ErrArg)
		}
		isNone(t, "a name that is none", d, name)
	}
	agrees(t, "many names", d, m)
	if !slices.Equal(d.List(), names()) {
		t.Errorf("%q", d.List())
	}
}

// TestP4_1Full is Append up to the room, and one byte above it: nothing is laid then, and no file made.
func TestP4_1Full(t *testing.T) {
	for _, room := range []int{0, 1, 2, 7, 1000} {
		for _, before := range []int{0, 1, room / 2, room} {
			if before > room {
				continue
			}
			d, m := laid(t, room, of("a", strings.Repeat("x", before), before))
			for _, file := range []string{"a", "b"} {
				is(t, "one above the room", d.Append(file, make([]byte, room-before+1)), api.ErrFull)
				is(t, "far above the room", d.Append(file, make([]byte, room+before+100)), api.ErrFull)
				agrees(t, "refused", d, m)
			}
			isNone(t, "refused", d, "b")
			is(t, "just the room", d.Append("b", make([]byte, room-before)), api.OK)
			is(t, "on paper", m.add("b", make([]byte, room-before)), api.OK)
			is(t, "no more, to a new one", d.Append("c", nil), api.OK)
			is(t, "on paper", m.add("c", nil), api.OK)
			is(t, "no more", d.Append("a", nil), api.OK)
			is(t, "one more", d.Append("a", []byte{1}), api.ErrFull)
			is(t, "one more, to a new one", d.Append("d", []byte{1}), api.ErrFull)
			agrees(t, "full", d, m)
			if d.Used() != room {
				t.Errorf("%d bytes of %d", d.Used(), room)
			}
		}
	}
}

// TestP4_1Freed is Append where there is room again: behind a Cut, a Remove, a Rename onto a file, a Crash.
func TestP4_1Freed(t *testing.T) {
	for name, free := range map[string]func(d *disk.Disk) api.Errno{
		"Cut":    func(d *disk.Disk) api.Errno { return d.Cut("b", 1) },
		"Remove": func(d *disk.Disk) api.Errno { return d.Remove("a") },
		"Rename": func(d *disk.Disk) api.Errno { return d.Rename("b", "a") },
		"Crash":  func(d *disk.Disk) api.Errno { d.Crash(0); return api.OK },
	} {
		// With Crash(0) one byte of the second file stays.
		d, _ := laid(t, 10, of("a", "1234", 4), of("b", "567890", 0))
		is(t, name+": full", d.Append("a", []byte{1}), api.ErrFull)
		is(t, name, free(d), api.OK)
		left := 10 - d.Used()
		if want := map[string]int{"Cut": 5, "Remove": 4, "Rename": 4, "Crash": 5}[name]; left != want {
			t.Errorf("%s: room for %d, not %d", name, left, want)
		}
		is(t, name+": one above", d.Append("c", make([]byte, left+1)), api.ErrFull)
		is(t, name+": all that is left", d.Append("c", make([]byte, left)), api.OK)
		is(t, name+": one more", d.Append("c", make([]byte, 1)), api.ErrFull)
	}
}

// many is a disk of MaxFiles files, one byte each.
func many(t *testing.T) (*disk.Disk, *paper) {
	t.Helper()
	var l []sheet
	for i := range api.MaxFiles {
		l = append(l, of("f"+strconv.Itoa(i), "x", i%2))
	}
	return laid(t, 1000, l...)
}

// TestP4_1Files is Append to the last file that there may be, to one more, and to those that are there.
func TestP4_1Files(t *testing.T) {
	d, m := many(t)
	agrees(t, "all files", d, m)
	for _, p := range [][]byte{nil, {1}} {
		is(t, "one file more", d.Append("g", p), api.ErrFull)
		is(t, "a name that is none", d.Append("", p), api.ErrArg)
		for _, name := range []string{"f0", "f128", "f255"} {
			is(t, "one that is there", d.Append(name, p), api.OK)
			is(t, "on paper", m.add(name, p), api.OK)
		}
		agrees(t, "all files, grown", d, m)
	}
	is(t, "another name", d.Rename("f7", "g"), api.OK)
	is(t, "one file more, behind a Rename", d.Append("f7", nil), api.ErrFull)
	is(t, "Rename onto a file", d.Rename("g", "f8"), api.OK)
	is(t, "one in its place", d.Append("f7", nil), api.OK)
	is(t, "one file more", d.Append("g", nil), api.ErrFull)
	d.Crash(5)
	is(t, "one file more, behind a Crash", d.Append("g", nil), api.ErrFull)
	is(t, "one file more, in a Copy", d.Copy().Append("g", nil), api.ErrFull)
	is(t, "Remove", d.Remove("f0"), api.OK)
	is(t, "one in its place", d.Append("g", nil), api.OK)
	is(t, "one file more", d.Append("f0", nil), api.ErrFull)
	if len(d.List()) != api.MaxFiles {
		t.Errorf("%d files", len(d.List()))
	}
}

// TestP4_2 is Read, Size, Sync, List and Used of files that are there, and of such as are not.
func TestP4_2(t *testing.T) {
	d, m := laid(t, 100, of("b", "12345", 2), of("a", "", 0), of("c", "6", 0), of("\xff", "789", 3))
	agrees(t, "files", d, m)
	for _, name := range append(wrongNames(), "d", "A", "a ", "\xff\xff") {
		isNone(t, "no file", d, name)
	}
	for _, name := range []string{"b", "a", "\xff", "b"} {
		is(t, "Sync", d.Sync(name), api.OK)
		is(t, "on paper", m.sync(name), api.OK)
		agrees(t, "synced", d, m)
	}
	for _, name := range []string{"b", "a", "\xff"} {
		is(t, "what is laid behind", d.Append(name, []byte("xy")), api.OK)
		is(t, "on paper", m.add(name, []byte("xy")), api.OK)
		agrees(t, "not synced any more", d, m)
	}
	if d.Used() != 15 || !slices.Equal(d.List(), []string{"a", "b", "c", "\xff"}) {
		t.Errorf("%d bytes in %q", d.Used(), d.List())
	}
}

// TestP4_2List is List of many names, laid in many orders: they rise by their bytes, whatever they say.
func TestP4_2List(t *testing.T) {
	want := names()
	for turn := range want {
		d := made(t, 0)
		l := slices.Concat(want[turn:], want[:turn])
		if turn%2 == 1 {
			slices.Reverse(l)
		}
		for _, name := range l {
			is(t, "a name", d.Append(name, nil), api.OK)
		}
		if !slices.Equal(d.List(), want) {
			t.Errorf("%q", d.List())
		}
	}
}

// TestP4_3Rename is Rename to a new name and onto a file, with what lasts of it and what does not.
func TestP4_3Rename(t *testing.T) {
	for last := range 4 {
		for _, to := range []string{"b", "0", "z", names()[0], strings.Repeat("\xff", api.MaxName)} {
			d, m := laid(t, 100, of("a", "123", last), of("b", "45678", 5-last), of("c", "9", 1))
			is(t, "Rename", d.Rename("a", to), api.OK)
			is(t, "on paper", m.rename("a", to), api.OK)
			agrees(t, "renamed", d, m)
			isFile(t, "renamed", d, to, []byte("123"), last)
			isNone(t, "renamed", d, "a")
			is(t, "the old name anew", d.Append("a", []byte("x")), api.OK)
			isFile(t, "the old name anew", d, "a", []byte("x"), 0)
			isFile(t, "the new name", d, to, []byte("123"), last)
		}
	}
}

// TestP4_3Same is Rename to the same name: nothing changes.
func TestP4_3Same(t *testing.T) {
	for last := range 4 {
		d, m := laid(t, 9, of("a", "123", last), of("b", "45", 1))
		is(t, "the same name", d.Rename("a", "a"), api.OK)
		agrees(t, "the same name", d, m)
		is(t, "one above the room", d.Append("a", make([]byte, 5)), api.ErrFull)
		is(t, "the room", d.Append("a", make([]byte, 4)), api.OK)
	}
	d := made(t, 0)
	is(t, "the same name, no file", d.Rename("a", "a"), api.ErrNone)
	isNone(t, "the same name, no file", d, "a")
}

// TestP4_3Order is Rename with wrong names: to one that is none, from one that is not there, and both.
func TestP4_3Order(t *testing.T) {
	d, m := laid(t, 100, of("a", "123", 1), of("b", "45", 2))
	for _, to := range wrongNames() {
		is(t, "to a name that is none", d.Rename("a", to), api.ErrArg)
		is(t, "from one that is not there to a name that is none", d.Rename("c", to), api.ErrArg)
		is(t, "from a name that is none to one", d.Rename(to, to), api.ErrArg)
		is(t, "from a name that is none", d.Rename(to, "b"), api.ErrNone)
		is(t, "from a name that is none to a new one", d.Rename(to, "c"), api.ErrNone)
	}
	is(t, "from one that is not there", d.Rename("c", "a"), api.ErrNone)
	is(t, "from one that is not there to a new one", d.Rename("c", "d"), api.ErrNone)
	agrees(t, "refused", d, m)
}

// TestP4_3Remove is Remove: of a file that lasts, that does not, that has no bytes, that was removed.
func TestP4_3Remove(t *testing.T) {
	d, m := laid(t, 100, of("a", "123", 3), of("b", "45", 0), of("c", "", 0), of("d", "6", 0))
	for _, name := range []string{"b", "a", "c"} {
		is(t, "Remove", d.Remove(name), api.OK)
		is(t, "on paper", m.remove(name), api.OK)
		agrees(t, "removed", d, m)
		isNone(t, "removed", d, name)
	}
	is(t, "a name anew", d.Append("a", []byte("78")), api.OK)
	isFile(t, "a name anew", d, "a", []byte("78"), 0)
}

// TestP4_3Cut is Cut at each place of a file, with each count of bytes that last, and beside it.
func TestP4_3Cut(t *testing.T) {
	const b = "12345"
	for last := range len(b) + 1 {
		for n := range len(b) + 1 {
			d, m := laid(t, 100, of("a", b, last), of("b", "67", 1))
			is(t, "Cut", d.Cut("a", n), api.OK)
			is(t, "on paper", m.cut("a", n), api.OK)
			agrees(t, "cut", d, m)
			isFile(t, "cut", d, "a", []byte(b[:n]), min(last, n))
			is(t, "Append behind", d.Append("a", []byte("xyz")), api.OK)
			isFile(t, "grown again", d, "a", []byte(b[:n]+"xyz"), min(last, n))
			isFile(t, "the other one", d, "b", []byte("67"), 1)
		}
	}
}

// TestP4_3CutWrong is Cut below 0, above the size, and of files that are not there.
func TestP4_3CutWrong(t *testing.T) {
	d, m := laid(t, 100, of("a", "12345", 2), of("b", "", 0))
	for _, n := range []int{-1, -2, 6, 7, 1 << 31, math.MinInt, math.MaxInt} {
		is(t, "no such place", d.Cut("a", n), api.ErrArg)
		is(t, "no such place of no bytes", d.Cut("b", n), api.ErrArg)
		for _, name := range append(wrongNames(), "c") {
			is(t, "no such file, no such place", d.Cut(name, n), api.ErrNone)
		}
	}
	is(t, "one above nothing", d.Cut("b", 1), api.ErrArg)
	is(t, "at nothing", d.Cut("b", 0), api.OK)
	agrees(t, "refused", d, m)
}

// TestP4_3Last is that what Rename, Remove and Cut did stands behind a Crash, with no Sync.
func TestP4_3Last(t *testing.T) {
	for draw := range 5 {
		d, m := laid(t, 100, of("a", "123", 3), of("b", "45678", 5), of("c", "9", 1), of("d", "xyz", 3))
		is(t, "Rename", d.Rename("a", "e"), api.OK)
		is(t, "Rename onto a file", d.Rename("d", "c"), api.OK)
		is(t, "Remove", d.Remove("c"), api.OK)
		is(t, "Cut", d.Cut("b", 2), api.OK)
		d.Crash(draw)
		m.sheets = []sheet{of("b", "45", 2), of("e", "123", 3)}
		agrees(t, "behind a Crash", d, m)
	}
}
