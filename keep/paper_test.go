package keep_test

import (
	"bytes"
	"encoding/binary"
	"hash/crc32"
	"maps"
	"slices"
	"strings"
	"testing"

	"garner/api"
	"garner/disk"
	"garner/keep"
)

// sheet is a file as chapter 4's words have it: its bytes, and how many of them last.
type sheet struct {
	b    []byte
	last int
}

// paper is a disk as chapter 4's words have it, and what chapter 9 does on it: what the package is held against.
type paper struct {
	room  int
	files map[string]sheet
}

// names are those of the files, rising.
func (m *paper) names() []string { return slices.Sorted(maps.Keys(m.files)) }

// used is how many bytes all files have.
func (m *paper) used() int {
	n := 0
	for _, s := range m.files {
		n += len(s.b)
	}
	return n
}

// add is Append.
func (m *paper) add(name string, p []byte) api.Errno {
	s, ok := m.files[name]
	switch {
	case name == "" || len(name) > api.MaxName:
		return api.ErrArg
	case !ok && len(m.files) == api.MaxFiles, m.used()+len(p) > m.room:
		return api.ErrFull
	}
	m.files[name] = sheet{slices.Concat(s.b, p), s.last}
	return api.OK
}

// crash is Crash.
func (m *paper) crash(draw int) {
	for i, name := range m.names() {
		s := m.files[name]
		ways := len(s.b) - s.last + 1
		n := s.last + (max(draw, 0)%ways+i)%ways
		m.files[name] = sheet{bytes.Clone(s.b[:n]), n}
	}
}

// copy is Copy; no sheet is ever written into.
func (m *paper) copy() *paper { return &paper{m.room, maps.Clone(m.files)} }

// save is Save, step by step as the chapter tells it.
func (m *paper) save(name string, p []byte) api.Errno {
	if len(name) < 1 || len(name) > api.MaxName-1 {
		return api.ErrArg
	}
	if len(p) > api.MaxFrame {
		return api.ErrLong
	}
	delete(m.files, name+"~")
	if e := m.add(name+"~", record(p)); e != api.OK {
		delete(m.files, name+"~")
		return e
	}
	b := m.files[name+"~"].b
	delete(m.files, name+"~")
	m.files[name] = sheet{b, len(b)}
	return api.OK
}

// load is Load of a file's bytes, as chapters 2 and 9 tell it.
func (m *paper) load(name string) ([]byte, api.Errno) {
	s, ok := m.files[name]
	if !ok {
		return nil, api.ErrNone
	}
	if len(s.b) < 8 {
		return nil, api.ErrShort
	}
	n := uint64(binary.BigEndian.Uint32(s.b))
	switch rest := s.b[8:]; {
	case n > api.MaxFrame:
		return nil, api.ErrLong
	case n > uint64(len(rest)):
		return nil, api.ErrShort
	case !bytes.HasPrefix(s.b, record(rest[:n])):
		return nil, api.ErrSum
	case n < uint64(len(rest)):
		return nil, api.ErrForm
	default:
		return rest, api.OK
	}
}

// record is a record as chapter 2's words have it; its length may be one that no record has.
func record(p []byte) []byte {
	length := binary.BigEndian.AppendUint32(nil, uint32(len(p)))
	sum := crc32.ChecksumIEEE(slices.Concat(length, p))
	return slices.Concat(length, binary.BigEndian.AppendUint32(nil, sum), p)
}

// row is n bytes that look drawn and are the same each time; another start gives another row.
func row(n int, start uint64) []byte {
	b := make([]byte, n)
	x := start*2 + 1
	for i := range b {
		x = x*6364136223846793005 + 1442695040888963407
		b[i] = byte(x >> 56)
	}
	return b
}

// names are such as a Save takes: of one byte, of MaxName - 1 bytes, of any bytes; none is another one with ~ behind it.
func names() []string {
	return []string{
		"a", "b", "ab", "a ", "A", "~", "~a", "a~b", ".", "a/b", "..", "a\n", "\x00", "\x00\x00", "\xff", "\xff\xfe", "\u00e9", "e\u0301",
		strings.Repeat("n", api.MaxName-1), strings.Repeat("n", api.MaxName-2), strings.Repeat("\x00", api.MaxName-1), strings.Repeat("\xff", api.MaxName-1),
		strings.Repeat("~", api.MaxName-1), strings.Repeat("\u00e9", api.MaxName/2-1) + "x",
	}
}

// wrongNames are such as a Save takes for none.
func wrongNames() []string {
	return []string{
		"", strings.Repeat("n", api.MaxName), strings.Repeat("n", api.MaxName+1), strings.Repeat("n", api.MaxName-1) + "~",
		strings.Repeat("\x00", api.MaxName), strings.Repeat("\u00e9", api.MaxName/2), strings.Repeat("n", 256), strings.Repeat("n", 256+1), strings.Repeat("x", 1<<16),
	}
}

// made is a disk of a room.
func made(t *testing.T, room int) (*disk.Disk, *paper) {
	t.Helper()
	d, e := disk.New(room)
	if d == nil || e != api.OK {
		t.Fatalf("a room of %d: error %d", room, e)
	}
	return d, &paper{room, map[string]sheet{}}
}

// lay lays a file, of which the first bytes last, on a disk and on paper.
func lay(t *testing.T, d *disk.Disk, m *paper, name string, b []byte, last int) {
	t.Helper()
	is(t, "Append of what lasts", d.Append(name, b[:last]), api.OK)
	is(t, "Sync", d.Sync(name), api.OK)
	is(t, "Append of what does not", d.Append(name, b[last:]), api.OK)
	m.files[name] = sheet{bytes.Clone(b), last}
}

// is asks for an error.
func is(t *testing.T, name string, e, want api.Errno) {
	t.Helper()
	if e != want {
		t.Errorf("%s: error %d, not %d", name, e, want)
	}
}

// hasFiles asks whether a disk has just the files that are on paper, byte by byte.
func hasFiles(t *testing.T, name string, d *disk.Disk, m *paper) {
	t.Helper()
	if l := d.List(); !slices.Equal(l, m.names()) {
		t.Errorf("%s: files %q, not %q", name, l, m.names())
	}
	if d.Used() != m.used() {
		t.Errorf("%s: %d bytes, not %d", name, d.Used(), m.used())
	}
	for file, s := range m.files {
		if b, e := d.Read(file); e != api.OK || !bytes.Equal(b, s.b) {
			t.Errorf("%s: %q is %.40x of %d bytes, error %d, not %.40x of %d", name, file, b, len(b), e, s.b, len(s.b))
		}
	}
}

// agrees asks whether a disk has just the files that are on paper, and what lasts of each: of bytes that do not last, the draw 0 or 1 takes some.
func agrees(t *testing.T, name string, d *disk.Disk, m *paper) {
	t.Helper()
	hasFiles(t, name, d, m)
	for draw := range 3 {
		c, n := d.Copy(), m.copy()
		c.Crash(draw)
		n.crash(draw)
		hasFiles(t, name+", crashed", c, n)
	}
}

// saves asks Save for the error that stands on paper, and the disk for what does.
func saves(t *testing.T, name string, d *disk.Disk, m *paper, file string, p []byte) api.Errno {
	t.Helper()
	want := m.save(file, p)
	is(t, name+": Save", keep.Save(d, file, p), want)
	agrees(t, name, d, m)
	return want
}

// isSaved asks whether a Save is done, as on paper, and whether its bytes are loaded.
func isSaved(t *testing.T, name string, d *disk.Disk, m *paper, file string, p []byte) {
	t.Helper()
	is(t, name, saves(t, name, d, m, file, p), api.OK)
	isLoaded(t, name, d, file, p)
}

// isLoaded asks for a file's bytes.
func isLoaded(t *testing.T, name string, d *disk.Disk, file string, want []byte) {
	t.Helper()
	if p, e := keep.Load(d, file); e != api.OK || !bytes.Equal(p, want) {
		t.Errorf("%s: Load of %q is %.40x of %d bytes, error %d, not %.40x of %d", name, file, p, len(p), e, want, len(want))
	}
}

// isRefused asks Load for an error and nothing beside it.
func isRefused(t *testing.T, name string, d *disk.Disk, file string, want api.Errno) {
	t.Helper()
	if p, e := keep.Load(d, file); e != want || len(p) != 0 {
		t.Errorf("%s: Load of %q is %.40x of %d bytes, error %d, not %d", name, file, p, len(p), e, want)
	}
}

// loads asks Load of a file for what stands on paper.
func loads(t *testing.T, name string, d *disk.Disk, m *paper, file string) {
	t.Helper()
	want, wantE := m.load(file)
	if wantE != api.OK {
		isRefused(t, name, d, file, wantE)
		return
	}
	isLoaded(t, name, d, file, want)
}

// drawn are numbers that look drawn and are the same each time.
type drawn uint64

// below is a number from 0 to n - 1.
func (x *drawn) below(n int) int {
	*x = *x*6364136223846793005 + 1442695040888963407
	return int(uint64(*x) >> 33 % uint64(n))
}
