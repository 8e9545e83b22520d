package keep_test

import (
	"bytes"
	"slices"
	"strconv"
	"strings"
	"testing"

	"garner/api"
	"garner/disk"
	"garner/keep"
)

// blobs are what is saved: nothing, one byte, some bytes, the most.
func blobs() [][]byte {
	l := [][]byte{nil, {}}
	for _, n := range []int{1, 2, 7, 8, 9, 100, 255, 256, 65536, api.MaxFrame - 1, api.MaxFrame} {
		l = append(l, row(n, uint64(n)))
	}
	return l
}

// TestP9_1Example is the chapter's example.
func TestP9_1Example(t *testing.T) {
	d, _ := made(t, 100)
	is(t, "Save", keep.Save(d, "a", []byte("xy")), api.OK)
	is(t, "Save", keep.Save(d, "a", []byte("z")), api.OK)
	isLoaded(t, "the example", d, "a", []byte("z"))
	if l := d.List(); !slices.Equal(l, []string{"a"}) {
		t.Errorf("%q", l)
	}
}

// TestP9_1Bytes is what stands on the disk behind a Save, as bytes written out here.
func TestP9_1Bytes(t *testing.T) {
	for _, x := range []struct {
		p    string
		want []byte
	}{
		{"", []byte{0, 0, 0, 0, 0x21, 0x44, 0xdf, 0x1c}},
		{"\xab", []byte{0, 0, 0, 1, 0x9e, 0x3d, 0xbc, 0x3c, 0xab}},
		{"garner", []byte{0, 0, 0, 6, 0x14, 0x07, 0x3d, 0x9c, 'g', 'a', 'r', 'n', 'e', 'r'}},
	} {
		d, _ := made(t, 100)
		is(t, "Save", keep.Save(d, "a", []byte(x.p)), api.OK)
		// Whatever the draw, a Crash takes nothing of what was synced.
		for draw := range 30 {
			c := d.Copy()
			c.Crash(draw)
			if b, e := c.Read("a"); e != api.OK || !bytes.Equal(b, x.want) {
				t.Errorf("%q, crashed with %d: %x, error %d", x.p, draw, b, e)
			}
		}
		if n, ok := d.Size("a"); n != len(x.want) || !ok || d.Used() != n || !slices.Equal(d.List(), []string{"a"}) {
			t.Errorf("%q: %d bytes, %t, of %d in %q", x.p, n, ok, d.Used(), d.List())
		}
		isLoaded(t, "by hand", d, "a", []byte(x.p))
	}
}

// TestP9_1 is Save of all blobs, each anew over each other one.
func TestP9_1(t *testing.T) {
	for _, p := range blobs() {
		for _, q := range blobs() {
			d, m := made(t, 1<<22)
			isSaved(t, "saved", d, m, "a", p)
			isSaved(t, "saved anew", d, m, "a", q)
		}
	}
}

// TestP9_1Again is one file saved anew many times: nothing of what it was is left.
func TestP9_1Again(t *testing.T) {
	d, m := made(t, 300)
	for i := range 300 {
		isSaved(t, "saved anew", d, m, "a", row(i*37%140, uint64(i)))
	}
}

// TestP9_1Names is Save under all kinds of names, all of them on one disk.
func TestP9_1Names(t *testing.T) {
	d, m := made(t, 1<<16)
	for round := range 3 {
		for i, name := range names() {
			isSaved(t, "a name", d, m, name, row(1+i*7%50+round, uint64(i)))
		}
	}
	for i, name := range names() {
		isLoaded(t, "in the end", d, name, row(1+i*7%50+2, uint64(i)))
	}
}

// TestP9_1AnyByte is Save under names of one byte, with it in the middle, and with it at the end, for each byte.
func TestP9_1AnyByte(t *testing.T) {
	for i := range 256 {
		d, m := made(t, 100)
		isSaved(t, "one byte", d, m, string([]byte{byte(i)}), []byte{byte(i)})
		isSaved(t, "it in the middle", d, m, string([]byte{'x', byte(i), 'y'}), []byte{byte(i), 1})
		isSaved(t, "it at the end", d, m, string([]byte{'z', byte(i)}), []byte{byte(i), 2})
	}
}

// TestP9_1Lengths is Save under names of all lengths that there may be.
func TestP9_1Lengths(t *testing.T) {
	d, m := made(t, 1<<12)
	for n := 1; n < api.MaxName; n++ {
		isSaved(t, "a length", d, m, strings.Repeat("n", n), []byte{byte(n)})
	}
}

// TestP9_1Others is Save where other files stand, saved ones and others: they stay as they are, what lasts of them too.
func TestP9_1Others(t *testing.T) {
	d, m := made(t, 1<<12)
	lay(t, d, m, "0", []byte("12345"), 0)
	lay(t, d, m, "aa", []byte("12345"), 3)
	lay(t, d, m, "a~~", []byte("12345"), 1)
	lay(t, d, m, "~a", []byte("12345"), 2)
	lay(t, d, m, "~", nil, 0)
	lay(t, d, m, "z", []byte("12345"), 5)
	for i := range 9 {
		isSaved(t, "beside others", d, m, "a", row(i*5, 1))
		isSaved(t, "beside others", d, m, "b", row(i*3, 2))
	}
}

// TestP9_1Old is Save over a file that is no saved one, whatever of it lasts.
func TestP9_1Old(t *testing.T) {
	for _, old := range [][]byte{nil, {0}, []byte("1234567"), record([]byte("old")), row(100, 1), record(row(100, 2))} {
		for _, last := range []int{0, len(old) / 2, len(old)} {
			d, m := made(t, 1000)
			lay(t, d, m, "a", old, last)
			isSaved(t, "over another file", d, m, "a", []byte("new"))
		}
	}
}

// leftovers are what a file of the name with ~ behind it may be ahead of a Save.
func leftovers() [][]byte {
	whole := record([]byte("left"))
	return [][]byte{{}, {0}, whole[:7], whole[:8], whole[:11], whole, slices.Concat(whole, whole), record(nil), record([]byte("new")), record([]byte("new"))[:5], row(200, 3)}
}

// TestP9_1Before is Save where a file of the name with ~ behind it is there before, whatever of it lasts.
func TestP9_1Before(t *testing.T) {
	for _, left := range leftovers() {
		for _, last := range []int{0, len(left) / 2, len(left)} {
			for _, name := range []string{"a", "~", strings.Repeat("n", api.MaxName-1)} {
				d, m := made(t, 1000)
				lay(t, d, m, name+"~", left, last)
				isSaved(t, "a draft there, no file", d, m, name, []byte("new"))
				lay(t, d, m, name+"~", left, last)
				isSaved(t, "a draft and a file there", d, m, name, []byte("newer"))
				isSaved(t, "neither there", d, m, "b", nil)
			}
		}
	}
}

// TestP9_1Drafts is Save of names that are others with ~ behind them: the draft of one is the other's file, and goes.
func TestP9_1Drafts(t *testing.T) {
	d, m := made(t, 1000)
	isSaved(t, "a draft's name", d, m, "a~", []byte("1"))
	isSaved(t, "its draft's name", d, m, "a~~", []byte("2"))
	isSaved(t, "a name", d, m, "a", []byte("3"))
	isRefused(t, "the draft's name", d, "a~", api.ErrNone)
	isLoaded(t, "the draft's draft's name", d, "a~~", []byte("2"))
	isSaved(t, "the draft's name", d, m, "a~", []byte("4"))
	isRefused(t, "the draft's draft's name", d, "a~~", api.ErrNone)
	isLoaded(t, "the name", d, "a", []byte("3"))
}

// TestP9_1Room is Save with just the room that it needs, and with a byte less: the old file counts, the draft does not.
func TestP9_1Room(t *testing.T) {
	for _, p := range [][]byte{nil, {1}, row(30, 4), row(api.MaxFrame, 5)} {
		for _, old := range []int{-1, 0, 1, 50} {
			for _, left := range []int{-1, 0, 1, len(p) + 7, len(p) + 8, len(p) + 9} {
				need := len(p) + 8
				if old >= 0 {
					need += 8 + old
				}
				for _, less := range []int{0, 1, len(p) + 7, len(p) + 8} {
					roomy(t, p, old, left, need-less, less == 0)
				}
			}
		}
	}
}

// roomy is a Save on a disk of a room, with an old file of so many bytes and a draft of so many, where the room lets them stand (below 0: none).
func roomy(t *testing.T, p []byte, old, left, room int, fits bool) {
	t.Helper()
	d, m := made(t, room)
	if old >= 0 {
		is(t, "the old file", keep.Save(d, "a", row(old, 6)), m.save("a", row(old, 6)))
	}
	if left >= 0 && m.used()+left <= room {
		lay(t, d, m, "a~", row(left, 7), left/2)
	}
	agrees(t, "ahead", d, m)
	was, wasE := keep.Load(d, "a")
	if fits {
		isSaved(t, "just the room", d, m, "a", p)
		return
	}
	is(t, "less room", saves(t, "less room", d, m, "a", p), api.ErrFull)
	if _, ok := d.Size("a~"); ok {
		t.Errorf("%d bytes, room %d: the draft is still there", len(p), room)
	}
	if wasE != api.OK {
		isRefused(t, "less room", d, "a", wasE)
		return
	}
	isLoaded(t, "less room", d, "a", was)
}

// TestP9_1RoomOfOthers is Save where other files take the room: what they leave counts.
func TestP9_1RoomOfOthers(t *testing.T) {
	d, m := made(t, 100)
	lay(t, d, m, "other", row(60, 8), 30)
	is(t, "a byte too much", saves(t, "a byte too much", d, m, "a", row(33, 9)), api.ErrFull)
	isRefused(t, "a byte too much", d, "a", api.ErrNone)
	isSaved(t, "just the room", d, m, "a", row(32, 9))
	is(t, "no room at all", saves(t, "no room at all", d, m, "a", nil), api.ErrFull)
	isLoaded(t, "no room at all", d, "a", row(32, 9))
	is(t, "Remove", d.Remove("other"), api.OK)
	delete(m.files, "other")
	isSaved(t, "room again", d, m, "a", nil)
}

// crowded is a disk with so many files beside.
func crowded(t *testing.T, n int) (*disk.Disk, *paper) {
	t.Helper()
	d, m := made(t, 1<<20)
	for i := range n {
		lay(t, d, m, "file "+strconv.Itoa(i), row(i%5, uint64(i)), i%5/2)
	}
	return d, m
}

// TestP9_1Files is Save on a disk that holds as many files as it may, or one less: a draft needs its place, an old file gives none.
func TestP9_1Files(t *testing.T) {
	d, m := crowded(t, api.MaxFiles-1)
	isSaved(t, "the last place", d, m, "a", []byte("old"))
	is(t, "no place, over a file", saves(t, "no place", d, m, "a", []byte("new")), api.ErrFull)
	isLoaded(t, "no place, over a file", d, "a", []byte("old"))
	is(t, "no place for a new one", saves(t, "no place", d, m, "b", []byte("new")), api.ErrFull)
	isRefused(t, "no place for a new one", d, "b", api.ErrNone)
	is(t, "no place, no bytes", saves(t, "no place", d, m, "b", nil), api.ErrFull)
	is(t, "Remove", d.Remove("file 7"), api.OK)
	delete(m.files, "file 7")
	isSaved(t, "a place, over a file", d, m, "a", []byte("new"))
	isSaved(t, "a place, over a file, again", d, m, "a", []byte("newer"))
	lay(t, d, m, "a~", []byte("left"), 2)
	isSaved(t, "the draft's place, over a file", d, m, "a", []byte("newest"))
	lay(t, d, m, "b~", []byte("left"), 2)
	isSaved(t, "the draft's place, for a new one", d, m, "b", []byte("new"))
	is(t, "no place any more", saves(t, "no place", d, m, "c", []byte("new")), api.ErrFull)
}

// TestP9_1Wrong is Save under names that are none, and of more bytes than a record may have: nothing is done on the disk, a draft stays.
func TestP9_1Wrong(t *testing.T) {
	d, m := made(t, 1<<22)
	isSaved(t, "a file", d, m, "a", []byte("old"))
	lay(t, d, m, "a~", []byte("left"), 2)
	lay(t, d, m, "~", []byte("left"), 2)
	lay(t, d, m, strings.Repeat("n", api.MaxName), []byte("left"), 2)
	for _, name := range wrongNames() {
		for _, p := range [][]byte{nil, {}, {1}, row(100, 1), row(api.MaxFrame, 2)} {
			is(t, "a name that is none", saves(t, "a name that is none", d, m, name, p), api.ErrArg)
		}
	}
	for _, n := range []int{api.MaxFrame + 1, api.MaxFrame + 8, 2 * api.MaxFrame, 1 << 24} {
		is(t, "too long", saves(t, "too long", d, m, "a", make([]byte, n)), api.ErrLong)
		is(t, "too long, no such file", saves(t, "too long", d, m, "b", make([]byte, n)), api.ErrLong)
	}
	isLoaded(t, "refused", d, "a", []byte("old"))
	isRefused(t, "refused", d, "b", api.ErrNone)
	// The room behind the end does not count.
	isSaved(t, "a long room behind", d, m, "a", make([]byte, 2, 2*api.MaxFrame))
}

// TestP9_1Order is Save where more than one thing is wrong: the error that is named first is told.
func TestP9_1Order(t *testing.T) {
	long := make([]byte, api.MaxFrame+1)
	full, m := made(t, 8)
	isSaved(t, "a file", full, m, "a", nil)
	crowd, n := crowded(t, api.MaxFiles)
	var zero disk.Disk
	for _, name := range wrongNames() {
		is(t, "a wrong name, too long", keep.Save(full, name, long), api.ErrArg)
		is(t, "a wrong name, no room", keep.Save(full, name, nil), api.ErrArg)
		is(t, "a wrong name, no place", keep.Save(crowd, name, nil), api.ErrArg)
		is(t, "a wrong name, a zero disk", keep.Save(&zero, name, long), api.ErrArg)
		is(t, "a wrong name, no disk", keep.Save(nil, name, long), api.ErrArg)
		is(t, "a wrong name, no disk", keep.Save(nil, name, nil), api.ErrArg)
	}
	is(t, "too long, no room", keep.Save(full, "a", long), api.ErrLong)
	is(t, "too long, no room for a new one", keep.Save(full, "b", long), api.ErrLong)
	is(t, "too long, no place", keep.Save(crowd, "a", long), api.ErrLong)
	is(t, "too long, a zero disk", keep.Save(&zero, "a", long), api.ErrLong)
	is(t, "too long, no disk", keep.Save(nil, "a", long), api.ErrArg)
	agrees(t, "no room", full, m)
	agrees(t, "no place", crowd, n)
	agrees(t, "a zero disk", &zero, &paper{0, nil})
}
