package keep_test

import (
	"bytes"
	"math"
	"strings"
	"testing"

	"garner/api"
	"garner/disk"
	"garner/keep"
)

// draws are numbers that Crash is given: around 0, small, at both ends of their type.
func draws() []int {
	l := []int{math.MinInt, -7, -1, 1<<31 - 1, 1 << 31, 1 << 62, math.MaxInt - 1, math.MaxInt}
	for i := range 30 {
		l = append(l, i)
	}
	return l
}

// TestP9_3 is files that are saved anew, with a Crash of any draw between Saves, and beside drafts of which some stays: Load is what the last Save was given.
func TestP9_3(t *testing.T) {
	for _, draw := range draws() {
		d, _ := made(t, 1<<16)
		last := map[string][]byte{}
		for i := range 8 {
			for j, name := range []string{"a", "b", "\xff", strings.Repeat("n", api.MaxName-1)} {
				p := row((i*13+j*29)%70, uint64(i*10+j))
				is(t, "Save", keep.Save(d, name, p), api.OK)
				last[name] = p
				if (i+j)%3 == 0 {
					is(t, "a draft", d.Append(name+"~", row(i+j, 22)), api.OK)
				}
				if (i+j)%2 == 0 {
					d.Crash(draw)
				}
				hasLast(t, d, last)
			}
			d.Crash(draw + i)
			hasLast(t, d, last)
		}
	}
}

// hasLast asks Load of each name for what its last Save was given.
func hasLast(t *testing.T, d *disk.Disk, last map[string][]byte) {
	t.Helper()
	for name, p := range last {
		isLoaded(t, "the last one", d, name, p)
	}
}

// TestP9_3Torn is a Save's steps that end anywhere with a Crash: Load is what was saved before, and the next Save is done.
func TestP9_3Torn(t *testing.T) {
	half := record(row(30, 23))
	for n := range len(half) + 1 {
		for _, draw := range draws() {
			d, m := made(t, 200)
			isSaved(t, "before", d, m, "a", []byte("before"))
			is(t, "Append of a part", d.Append("a~", half[:n]), api.OK)
			m.files["a~"] = sheet{half[:n], 0}
			d.Crash(draw)
			m.crash(draw)
			hasFiles(t, "torn", d, m)
			isLoaded(t, "torn", d, "a", []byte("before"))
			is(t, "the next one", keep.Save(d, "a", []byte("behind")), m.save("a", []byte("behind")))
			hasFiles(t, "the next one", d, m)
			d.Crash(draw)
			hasFiles(t, "the next one, crashed", d, m)
			isLoaded(t, "the next one, crashed", d, "a", []byte("behind"))
		}
	}
}

// TestP9_3Refused is Saves that are refused, each for its reason: Load of each name tells what it told, also behind a Crash.
func TestP9_3Refused(t *testing.T) {
	for _, draw := range draws() {
		d, _ := made(t, 100)
		last := map[string][]byte{"a": []byte("old"), "b": {}, "~": row(20, 24)}
		for name, p := range last {
			is(t, "Save", keep.Save(d, name, p), api.OK)
		}
		is(t, "Append", d.Append("torn", record([]byte("torn"))[:9]), api.OK)
		is(t, "Sync", d.Sync("torn"), api.OK)
		for _, name := range []string{"a", "b", "~", "torn", "none"} {
			is(t, "a draft", d.Append(name+"~", []byte("d")), api.OK)
			is(t, "no room", keep.Save(d, name, row(50, 25)), api.ErrFull)
			is(t, "too long", keep.Save(d, name, make([]byte, api.MaxFrame+1)), api.ErrLong)
			hasLast(t, d, last)
			isRefused(t, "none", d, "none", api.ErrNone)
			isRefused(t, "torn", d, "torn", api.ErrShort)
			d.Crash(draw)
			hasLast(t, d, last)
		}
		for _, name := range wrongNames() {
			is(t, "a name that is none", keep.Save(d, name, []byte("new")), api.ErrArg)
			isRefused(t, "a name that is none", d, name, api.ErrNone)
			hasLast(t, d, last)
		}
		isRefused(t, "none", d, "none", api.ErrNone)
		isRefused(t, "torn", d, "torn", api.ErrShort)
	}
}

// TestP9_3NoPlace is Saves that are refused since there are as many files as there may be.
func TestP9_3NoPlace(t *testing.T) {
	d, m := crowded(t, api.MaxFiles-2)
	isSaved(t, "a file", d, m, "a", []byte("old"))
	isSaved(t, "a file", d, m, "b", nil)
	for _, draw := range draws() {
		is(t, "no place", keep.Save(d, "a", []byte("new")), api.ErrFull)
		is(t, "no place", keep.Save(d, "b", []byte("new")), api.ErrFull)
		is(t, "no place", keep.Save(d, "c", nil), api.ErrFull)
		hasLast(t, d, map[string][]byte{"a": []byte("old"), "b": nil})
		isRefused(t, "no place", d, "c", api.ErrNone)
		d.Crash(draw)
	}
}

// scribble does something to a disk that is no Save, and the same on paper; it leaves the files of these names alone.
func scribble(t *testing.T, x *drawn, d *disk.Disk, m *paper) {
	t.Helper()
	file := []string{"a~", "b~", "\x00~", "other", "another"}[x.below(5)]
	p := row(x.below(30), uint64(x.below(100)))
	switch x.below(4) {
	case 0:
		draw := x.below(60) - 5
		d.Crash(draw)
		m.crash(draw)
	case 1:
		if s, ok := m.files[file]; ok {
			is(t, "Sync", d.Sync(file), api.OK)
			m.files[file] = sheet{s.b, len(s.b)}
		}
	default:
		is(t, "Append", d.Append(file, p), m.add(file, p))
	}
}

// TestP9_3Drawn is scripts of Saves, Crashes and drafts that grow, on disks of small and great room: behind each step the disk is as on paper, and Load is what the last Save that was not refused was given.
func TestP9_3Drawn(t *testing.T) {
	refused, done := 0, 0
	for start := range 40 {
		x := drawn(start)
		d, m := made(t, []int{60, 150, 400, 1 << 16}[start%4])
		last := map[string][]byte{}
		for step := range 120 {
			scribble(t, &x, d, m)
			name := []string{"a", "b", "\x00", "c", "", strings.Repeat("n", api.MaxName)}[x.below(6)]
			p := row(x.below(40), uint64(step))
			if e := saves(t, "drawn", d, m, name, p); e == api.OK {
				last[name] = bytes.Clone(p)
				done++
			} else {
				refused++
			}
			hasLast(t, d, last)
			for _, name := range []string{"a", "b", "\x00", "c", "a~", "b~", "\x00~", "other", "another", ""} {
				loads(t, "drawn", d, m, name)
			}
			if t.Failed() {
				t.Fatalf("start %d, step %d", start, step)
			}
		}
	}
	if refused < 500 || done < 500 {
		t.Errorf("%d refused, %d done", refused, done)
	}
}
