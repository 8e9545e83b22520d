package keep_test

import (
	"bytes"
	"slices"
	"strings"
	"testing"

	"garner/api"
	"garner/disk"
	"garner/keep"
)

// inRoom is bytes with other ones in the spare room behind their end, and all of that room.
func inRoom(p []byte) ([]byte, []byte) {
	whole := slices.Concat(p, bytes.Repeat([]byte{0xaa}, 24))
	return whole[:len(p)], whole
}

// spoil writes into all of some bytes, their spare room too.
func spoil(b []byte) {
	b = b[:cap(b)]
	for i := range b {
		b[i] ^= 0x5a
	}
}

// TestP9_4Save asks whether Save neither changes nor keeps its bytes, nor the room behind them.
func TestP9_4Save(t *testing.T) {
	for _, n := range []int{0, 1, 2, 7, 8, 100, 5000, api.MaxFrame} {
		d, m := made(t, 1<<23)
		for i := range uint64(3) {
			p, whole := inRoom(row(n, i))
			before := bytes.Clone(whole)
			isSaved(t, "handed in", d, m, "a", p)
			isSaved(t, "handed in again", d, m, "b", p)
			if !bytes.Equal(whole, before) {
				t.Errorf("%d bytes became others", n)
			}
			for at := range min(n, 100) {
				is(t, "Rot", d.Rot("b", 8+at, 0xff), api.OK)
			}
			is(t, "Append behind", d.Append("b", []byte{0xbb}), api.OK)
			is(t, "Remove", d.Remove("b"), api.OK)
			delete(m.files, "b")
			if !bytes.Equal(whole, before) {
				t.Errorf("%d bytes are shared with the disk", n)
			}
			spoil(whole)
			agrees(t, "behind a row that was spoiled", d, m)
			isLoaded(t, "behind a row that was spoiled", d, "a", before[:n])
		}
	}
}

// TestP9_4Refused asks whether a Save that is refused leaves its bytes, and the room behind them.
func TestP9_4Refused(t *testing.T) {
	d, m := made(t, 30)
	isSaved(t, "a file", d, m, "a", []byte("old"))
	for _, x := range []struct {
		name string
		n    int
		e    api.Errno
	}{{"a", 20, api.ErrFull}, {"b", 20, api.ErrFull}, {"", 20, api.ErrArg}, {strings.Repeat("n", api.MaxName), 0, api.ErrArg}, {"a", api.MaxFrame + 1, api.ErrLong}} {
		p, whole := inRoom(row(x.n, 26))
		before := bytes.Clone(whole)
		is(t, "refused", saves(t, "refused", d, m, x.name, p), x.e)
		is(t, "no disk", keep.Save(nil, x.name, p), api.ErrArg)
		if !bytes.Equal(whole, before) {
			t.Errorf("%q, %d bytes: they became others", x.name, x.n)
		}
		spoil(whole)
		agrees(t, "behind a row that was spoiled", d, m)
		isLoaded(t, "behind a row that was spoiled", d, "a", []byte("old"))
	}
}

// TestP9_4Load asks whether what Load answers is new memory, its spare room too, and stays, whatever is done later.
func TestP9_4Load(t *testing.T) {
	for _, n := range []int{0, 1, 2, 7, 8, 100, 5000, api.MaxFrame} {
		d, m := made(t, 1<<23)
		p := row(n, 27)
		isSaved(t, "saved", d, m, "a", p)
		first, _ := keep.Load(d, "a")
		second, _ := keep.Load(d, "a")
		spoil(second)
		_ = append(second, 1, 2, 3, 4)
		if !bytes.Equal(first, p) {
			t.Errorf("%d bytes: two answers share memory", n)
		}
		agrees(t, "behind an answer that was spoiled", d, m)
		isLoaded(t, "behind an answer that was spoiled", d, "a", p)
		isSaved(t, "saved as it was loaded", d, m, "b", first)
		spoil(first)
		agrees(t, "behind an answer that was saved and spoiled", d, m)
		isLoaded(t, "saved as it was loaded", d, "b", p)
	}
}

// TestP9_4Stays asks whether what Load answered stays, whatever is done to the disk.
func TestP9_4Stays(t *testing.T) {
	d, m := made(t, 1000)
	p := row(50, 28)
	isSaved(t, "saved", d, m, "a", p)
	was, e := keep.Load(d, "a")
	is(t, "Load", e, api.OK)
	is(t, "Append", d.Append("a", []byte("behind")), api.OK)
	for at := range 58 {
		is(t, "Rot", d.Rot("a", at, 0xff), api.OK)
	}
	is(t, "Cut", d.Cut("a", 5), api.OK)
	d.Crash(3)
	is(t, "Save", keep.Save(d, "a", []byte("new")), api.OK)
	is(t, "Remove", d.Remove("a"), api.OK)
	if !bytes.Equal(was, p) {
		t.Errorf("%x became %x", p, was)
	}
}

// TestP9_4Nil is a nil Disk: to Save an argument that is none, to Load one without a file, whatever else is handed in.
func TestP9_4Nil(t *testing.T) {
	var d *disk.Disk
	for _, name := range slices.Concat(names(), wrongNames()) {
		for _, p := range [][]byte{nil, {}, {1}, make([]byte, api.MaxFrame), make([]byte, api.MaxFrame+1)} {
			is(t, "no disk", keep.Save(d, name, p), api.ErrArg)
		}
		isRefused(t, "no disk", d, name, api.ErrNone)
	}
}

// TestW2Twins is that two disks to which the same is done answer the same, and a copy as what was copied.
func TestW2Twins(t *testing.T) {
	d, m := made(t, 300)
	c, n := made(t, 300)
	one, two := drawn(29), drawn(29)
	for step := range 300 {
		scribble(t, &one, d, m)
		scribble(t, &two, c, n)
		name := []string{"a", "b", "\x00"}[step%3]
		p := row(step*7%60, uint64(step))
		copied := d.Copy()
		e := keep.Save(d, name, p)
		is(t, "its twin", keep.Save(c, name, p), e)
		is(t, "its copy", keep.Save(copied, name, p), e)
		is(t, "on paper", m.save(name, p), e)
		is(t, "on paper", n.save(name, p), e)
		hasFiles(t, "one", d, m)
		hasFiles(t, "its twin", c, m)
		hasFiles(t, "its copy", copied, m)
	}
}
