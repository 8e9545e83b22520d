package keep_test

import (
	"bytes"
	"encoding/binary"
	"slices"
	"strings"
	"testing"

	"garner/api"
	"garner/disk"
	"garner/keep"
)

// TestP9_2 is Load of records that the disk was given by hand, under any name that a file has, the longest and ones with ~ too, whether they last or not.
func TestP9_2(t *testing.T) {
	for _, p := range blobs() {
		for _, last := range []int{0, 8 + len(p)} {
			d, m := made(t, 1<<22)
			lay(t, d, m, "a", record(p), last)
			isLoaded(t, "a record", d, "a", p)
			agrees(t, "behind a Load", d, m)
		}
	}
	for _, name := range append(names(), "a~", "a~~", strings.Repeat("n", api.MaxName), strings.Repeat("n", api.MaxName-1)+"~") {
		d, m := made(t, 100)
		lay(t, d, m, name, record([]byte(name)[:1]), 2)
		isLoaded(t, "a name", d, name, []byte(name)[:1])
		agrees(t, "behind a Load", d, m)
	}
}

// TestP9_2None is Load of files that are not there, of names that no file has too; of a draft alone there is no file.
func TestP9_2None(t *testing.T) {
	d, m := made(t, 1000)
	for _, name := range slices.Concat(names(), wrongNames()) {
		isRefused(t, "an empty disk", d, name, api.ErrNone)
	}
	lay(t, d, m, "a~", record([]byte("draft")), 3)
	lay(t, d, m, "x", record([]byte("another")), 3)
	for _, name := range slices.Concat(names(), wrongNames()) {
		isRefused(t, "no such file", d, name, api.ErrNone)
	}
	agrees(t, "behind a Load", d, m)
	isSaved(t, "there", d, m, "a", []byte("there"))
	is(t, "Remove", d.Remove("a"), api.OK)
	isRefused(t, "a file that went", d, "a", api.ErrNone)
}

// TestP9_2Short is Load of an empty file, and of one that is cut short anywhere.
func TestP9_2Short(t *testing.T) {
	d, m := made(t, 100)
	lay(t, d, m, "a", nil, 0)
	isRefused(t, "an empty file", d, "a", api.ErrShort)
	for _, n := range []int{0, 1, 2, 60} {
		p := row(n, 11)
		whole := record(p)
		for cut := range whole {
			d, m := made(t, 200)
			lay(t, d, m, "a", whole[:cut], cut/2)
			isRefused(t, "laid short", d, "a", api.ErrShort)
			agrees(t, "behind a Load", d, m)
			isSaved(t, "saved", d, m, "b", p)
			is(t, "Cut", d.Cut("b", cut), api.OK)
			isRefused(t, "cut short", d, "b", api.ErrShort)
			is(t, "the rest of it", d.Append("b", whole[cut:]), api.OK)
			isLoaded(t, "made whole", d, "b", p)
		}
	}
	d, m = made(t, 1<<22)
	isSaved(t, "the most", d, m, "a", row(api.MaxFrame, 12))
	for _, cut := range []int{api.MaxFrame + 7, api.MaxFrame, 9, 8, 7, 0} {
		is(t, "Cut", d.Cut("a", cut), api.OK)
		isRefused(t, "the most, cut short", d, "a", api.ErrShort)
	}
}

// TestP9_2Crashed is Load of a record that was not synced, of which a Crash left some: it is short, or whole.
func TestP9_2Crashed(t *testing.T) {
	p := row(20, 13)
	for draw := range 60 {
		d, m := made(t, 100)
		lay(t, d, m, "a", record(p), 0)
		d.Crash(draw)
		if draw%29 == 28 {
			isLoaded(t, "all stayed", d, "a", p)
			continue
		}
		isRefused(t, "some went", d, "a", api.ErrShort)
	}
}

// TestP9_2Rot is Load of saved files in which one byte rotted, each one to each other one: behind the first four it is the sum that is not right.
func TestP9_2Rot(t *testing.T) {
	for _, n := range []int{0, 1, 2, 5, 40} {
		p := row(n, 14)
		d, m := made(t, 100)
		isSaved(t, "saved", d, m, "a", p)
		for at := range 8 + n {
			for by := 1; by < 256; by++ {
				is(t, "Rot", d.Rot("a", at, byte(by)), api.OK)
				isRefused(t, "rotten", d, "a", rotten(record(p), at, byte(by)))
				is(t, "Rot", d.Rot("a", at, byte(by)), api.OK)
			}
		}
		isLoaded(t, "and back", d, "a", p)
	}
	d, m := made(t, 1<<22)
	isSaved(t, "the most", d, m, "a", row(api.MaxFrame, 15))
	for _, at := range []int{0, 1, 2, 3, 4, 7, 8, api.MaxFrame / 2, api.MaxFrame + 7} {
		is(t, "Rot", d.Rot("a", at, 0x11), api.OK)
		isRefused(t, "the most, rotten", d, "a", rotten(record(row(api.MaxFrame, 15)), at, 0x11))
		is(t, "Rot", d.Rot("a", at, 0x11), api.OK)
	}
}

// rotten is what a record is refused with, of which a byte is another one: where it tells another length, there are too few bytes, or it is too long, or the sum is another one's.
func rotten(b []byte, at int, by byte) api.Errno {
	b[at] ^= by
	told := uint64(binary.BigEndian.Uint32(b))
	switch {
	case told > api.MaxFrame:
		return api.ErrLong
	case told > uint64(len(b)-8):
		return api.ErrShort
	}
	return api.ErrSum
}

// TestP9_2Long is Load of files that tell more bytes than a record has, also with as many there and the right sum.
func TestP9_2Long(t *testing.T) {
	for _, b := range [][]byte{
		binary.BigEndian.AppendUint64(nil, (api.MaxFrame+1)<<32),
		binary.BigEndian.AppendUint64(nil, 1<<63),
		bytes.Repeat([]byte{0xff}, 8),
		bytes.Repeat([]byte{0xff}, 100),
		record(make([]byte, api.MaxFrame+1)),
		record(make([]byte, api.MaxFrame+1))[:api.MaxFrame],
	} {
		d, m := made(t, 1<<22)
		lay(t, d, m, "a", b, 0)
		isRefused(t, "too long", d, "a", api.ErrLong)
	}
}

// TestP9_2Behind is Load of records with something behind them, be it a byte, many, or a record.
func TestP9_2Behind(t *testing.T) {
	for _, p := range [][]byte{nil, {1}, row(40, 16), row(api.MaxFrame, 17)} {
		for _, behind := range [][]byte{{0}, {0xff}, {'~'}, row(7, 18), row(8, 19), record(nil), record([]byte("more")), record(p), row(1000, 20)} {
			d, m := made(t, 1<<23)
			lay(t, d, m, "a", slices.Concat(record(p), behind), 5)
			isRefused(t, "laid with more behind", d, "a", api.ErrForm)
			agrees(t, "behind a Load", d, m)
			isSaved(t, "saved", d, m, "b", p)
			is(t, "Append", d.Append("b", behind), api.OK)
			isRefused(t, "more behind", d, "b", api.ErrForm)
			is(t, "Cut", d.Cut("b", len(p)+8), api.OK)
			isLoaded(t, "nothing behind any more", d, "b", p)
		}
	}
}

// TestP9_2Order is Load where a record is not right and something stands behind it: chapter 2's error is told.
func TestP9_2Order(t *testing.T) {
	wrong := record([]byte("wrong"))
	wrong[10] ^= 1
	less := record([]byte("less"))
	less[3]--
	for _, x := range []struct {
		b []byte
		e api.Errno
	}{
		{append(wrong, 0), api.ErrSum},
		{slices.Concat(wrong, record(nil)), api.ErrSum},
		{less, api.ErrSum},
		{make([]byte, 8), api.ErrSum},
		{make([]byte, 9), api.ErrSum},
		{slices.Concat(bytes.Repeat([]byte{0xff}, 8), record(nil)), api.ErrLong},
		{bytes.Repeat([]byte{0xff}, 7), api.ErrShort},
		{slices.Concat(binary.BigEndian.AppendUint64(nil, 9<<32), record(nil)), api.ErrShort},
	} {
		d, m := made(t, 1000)
		lay(t, d, m, "a", x.b, 0)
		isRefused(t, "more than one thing", d, "a", x.e)
		loads(t, "more than one thing", d, m, "a")
	}
}

// TestP9_2Any is Load of files of any bytes: such as were drawn, and records that were changed in several ways.
func TestP9_2Any(t *testing.T) {
	x := drawn(21)
	told := map[api.Errno]int{}
	for i := range uint64(6000) {
		b := row(x.below(40), i)
		if i%2 == 0 {
			b = record(b)
			at := x.below(len(b))
			b[at] ^= byte(x.below(2))
			b = append(b, row(x.below(3), i+1)...)
			b = b[:len(b)-x.below(2)]
		} else if len(b) > 3 {
			// A length that may be there.
			copy(b, []byte{0, 0, 0, b[3] % 40})
		}
		d, m := made(t, 100)
		lay(t, d, m, "a", b, 0)
		loads(t, "any bytes", d, m, "a")
		hasFiles(t, "behind a Load", d, m)
		_, e := m.load("a")
		told[e]++
	}
	for _, e := range []api.Errno{api.OK, api.ErrShort, api.ErrForm, api.ErrSum} {
		if told[e] == 0 {
			t.Errorf("error %d was never told", e)
		}
	}
}

// TestP9_2Draft is Load beside a draft: it has no say.
func TestP9_2Draft(t *testing.T) {
	for _, left := range leftovers() {
		d, m := made(t, 1000)
		isSaved(t, "saved", d, m, "a", []byte("file"))
		lay(t, d, m, "a~", left, len(left)/2)
		isLoaded(t, "beside a draft", d, "a", []byte("file"))
		loads(t, "the draft", d, m, "a~")
		agrees(t, "behind a Load", d, m)
		isRefused(t, "a draft's draft", d, "a~~", api.ErrNone)
	}
}

// TestP9_2Zero is Load of a zero Disk's files.
func TestP9_2Zero(t *testing.T) {
	var d disk.Disk
	isRefused(t, "a zero disk", &d, "a", api.ErrNone)
	is(t, "no room", keep.Save(&d, "a", nil), api.ErrFull)
	isRefused(t, "a zero disk", &d, "a", api.ErrNone)
	is(t, "no bytes", d.Append("a", nil), api.OK)
	isRefused(t, "no bytes", &d, "a", api.ErrShort)
	is(t, "no room", keep.Save(&d, "a", nil), api.ErrFull)
	isRefused(t, "no bytes", &d, "a", api.ErrShort)
	if !slices.Equal(d.List(), []string{"a"}) {
		t.Errorf("%q", d.List())
	}
}
