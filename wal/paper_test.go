package wal_test

import (
	"bytes"
	"encoding/binary"
	"fmt"
	"hash/crc32"
	"maps"
	"math"
	"slices"
	"strconv"
	"strings"
	"testing"

	"garner/api"
	"garner/disk"
	"garner/wal"
)

// sheet is a file as chapter 4's words have it: its bytes, and how many of them last.
type sheet struct {
	b    []byte
	last int
}

// paper is a disk as chapter 4's words have it. No sheet of it is ever written into.
type paper struct {
	room  int
	files map[string]sheet
}

// names are those of the files, rising.
func (m *paper) names() []string { return slices.Sorted(maps.Keys(m.files)) }

// used is how many bytes all files have.
func (m *paper) used() int {
	n := 0
	for _, s := range m.files {
		n += len(s.b)
	}
	return n
}

// add is Append.
func (m *paper) add(name string, p []byte) api.Errno {
	s, ok := m.files[name]
	if !ok && len(m.files) == api.MaxFiles || m.used()+len(p) > m.room {
		return api.ErrFull
	}
	m.files[name] = sheet{slices.Concat(s.b, p), s.last}
	return api.OK
}

// sync is Sync.
func (m *paper) sync(name string) {
	s := m.files[name]
	m.files[name] = sheet{s.b, len(s.b)}
}

// cut is Cut.
func (m *paper) cut(name string, n int) {
	s := m.files[name]
	m.files[name] = sheet{s.b[:n:n], min(s.last, n)}
}

// crash is Crash.
func (m *paper) crash(draw int) {
	for i, name := range m.names() {
		s := m.files[name]
		ways := len(s.b) - s.last + 1
		n := s.last + (max(draw, 0)%ways+i)%ways
		m.files[name] = sheet{s.b[:n:n], n}
	}
}

// copy is Copy.
func (m *paper) copy() *paper { return &paper{m.room, maps.Clone(m.files)} }

// book is a log on paper: its entries by their numbers, the first numbers of its files, and which of these are not known to last.
type book struct {
	m       *paper
	prefix  string
	next    int
	entries map[int][]byte
	files   []int
	fresh   map[int]bool
}

// opened is Open.
func opened(m *paper, prefix string) *book {
	w := &book{m, prefix, 1, map[int][]byte{}, nil, map[int]bool{}}
	whole := true
	for _, n := range numbersOf(m, prefix) {
		whole = whole && w.takes(n)
		if !slices.Contains(w.files, n) {
			delete(m.files, w.name(n))
		}
	}
	return w
}

// takes reads a file as far as it is right, and cuts it there; it tells whether all of it is right.
func (w *book) takes(n int) bool {
	if n == 0 || len(w.files) > 0 && n != w.next {
		return false
	}
	b := w.m.files[w.name(n)].b
	if len(b) == 0 {
		w.next = n
	}
	at := 0
	for i := n; ; i++ {
		p, size := entryOf(b[at:], i)
		if size == 0 {
			break
		}
		at += size
		w.entries[i] = p
		w.next = i + 1
	}
	if at > 0 || len(b) == 0 {
		w.m.cut(w.name(n), at)
		w.files = append(w.files, n)
		w.fresh[n] = true
	}
	return at == len(b)
}

// numbersOf are the first numbers of the files that are a log's by their names, rising.
func numbersOf(m *paper, prefix string) []int {
	var l []int
	for name := range m.files {
		if len(name) < 8 {
			continue
		}
		n, e := strconv.ParseInt(name[len(name)-8:], 10, 64)
		if e == nil && n >= 0 && name == named(prefix, int(n)) {
			l = append(l, int(n))
		}
	}
	return slices.Sorted(slices.Values(l))
}

// entryOf is the entry that a record at the beginning of some bytes holds, if it is right and of that number, and how many bytes the record has; 0, if it is not so.
func entryOf(b []byte, number int) ([]byte, int) {
	if len(b) < 8 {
		return nil, 0
	}
	n := uint64(binary.BigEndian.Uint32(b))
	if n > api.MaxFrame || n > uint64(len(b)-8) || !bytes.HasPrefix(b, record(b[8:8+n])) {
		return nil, 0
	}
	p, ok := bytes.CutPrefix(b[8:8+n], binary.AppendUvarint(nil, uint64(number)))
	if !ok {
		return nil, 0
	}
	return p, 8 + int(n)
}

// name is that of the log's file which begins with that number.
func (w *book) name(n int) string { return named(w.prefix, n) }

// first is the number of the first entry.
func (w *book) first() int { return slices.Min(append(slices.Clone(w.files), w.next)) }

// end is the number behind the last entry of the k-th file.
func (w *book) end(k int) int { return append(slices.Clone(w.files), w.next)[k+1] }

// append is Append.
func (w *book) append(p []byte) (int, api.Errno) {
	if len(p) > api.MaxFrame-10 {
		return 0, api.ErrLong
	}
	if w.next >= 99999999 {
		return 0, api.ErrFull
	}
	into := w.next
	if n := len(w.files); n > 0 && len(w.m.files[w.name(w.files[n-1])].b) < api.SegBytes {
		into = w.files[n-1]
	}
	if e := w.m.add(w.name(into), laid(w.next, p)); e != api.OK {
		return 0, e
	}
	if !slices.Contains(w.files, into) {
		w.files = append(w.files, into)
	}
	w.entries[w.next] = bytes.Clone(p)
	w.fresh[into] = true
	w.next++
	return w.next - 1, api.OK
}

// sync is Sync.
func (w *book) sync() {
	for _, n := range w.files {
		if w.fresh[n] {
			w.m.sync(w.name(n))
		}
	}
	w.fresh = map[int]bool{}
}

// cut is Cut.
func (w *book) cut(i int) api.Errno {
	if i < w.first() || i > w.next {
		return api.ErrArg
	}
	var files []int
	for k, n := range w.files {
		switch {
		case n >= i:
			delete(w.m.files, w.name(n))
			delete(w.fresh, n)
			continue
		case w.end(k) > i:
			size := 0
			for ; n < i; n++ {
				size += len(laid(n, w.entries[n]))
			}
			w.m.cut(w.name(w.files[k]), size)
		}
		files = append(files, w.files[k])
	}
	w.files = files
	maps.DeleteFunc(w.entries, func(n int, _ []byte) bool { return n >= i })
	w.next = i
	return api.OK
}

// drop is Drop.
func (w *book) drop(i int) api.Errno {
	if i < w.first() || i > w.next {
		return api.ErrArg
	}
	var files []int
	for k, n := range w.files {
		if w.end(k) > i {
			files = append(files, n)
			continue
		}
		delete(w.m.files, w.name(n))
		delete(w.fresh, n)
	}
	w.files = files
	maps.DeleteFunc(w.entries, func(n int, _ []byte) bool { return n < w.first() })
	return api.OK
}

// record is a record as chapter 2's words have it.
func record(p []byte) []byte {
	length := binary.BigEndian.AppendUint32(nil, uint32(len(p)))
	sum := crc32.ChecksumIEEE(slices.Concat(length, p))
	return slices.Concat(length, binary.BigEndian.AppendUint32(nil, sum), p)
}

// laid is an entry's record.
func laid(number int, p []byte) []byte {
	return record(slices.Concat(binary.AppendUvarint(nil, uint64(number)), p))
}

// named is the name of a log's file which begins with that number.
func named(prefix string, n int) string { return fmt.Sprintf("%s.%08d", prefix, n) }

// row is n bytes that look drawn and are the same each time; another start gives another row.
func row(n int, start uint64) []byte {
	b := make([]byte, n)
	x := start*2 + 1
	for i := range b {
		x = x*6364136223846793005 + 1442695040888963407
		b[i] = byte(x >> 56)
	}
	return b
}

// drawn are numbers that look drawn and are the same each time.
type drawn uint64

// below is a number from 0 to n - 1.
func (x *drawn) below(n int) int {
	*x = *x*6364136223846793005 + 1442695040888963407
	return int(uint64(*x) >> 33 % uint64(n))
}

// prefixes are such as a log takes: of one byte, of MaxName - 9 bytes, of any bytes, such as look like a segment's name.
func prefixes() []string {
	return []string{
		"a", "log", "lo", "Log", ".", "log.", "0", "00000001", "log.00000001", "log.0", "a/b", "a\n", "~", " ", "\x00", "\xff", "\xff\xfe.", "\u00e9",
		strings.Repeat("n", api.MaxName-9), strings.Repeat("n", api.MaxName-10), strings.Repeat("\xff", api.MaxName-9), strings.Repeat(".", api.MaxName-9),
	}
}

// wrongPrefixes are such as a log does not take.
func wrongPrefixes() []string {
	return []string{
		"", strings.Repeat("n", api.MaxName-8), strings.Repeat("n", api.MaxName-7), strings.Repeat("n", api.MaxName), strings.Repeat("\x00", api.MaxName-8),
		strings.Repeat("\u00e9", (api.MaxName-8)/2), strings.Repeat("n", 256), strings.Repeat("n", 256+1), strings.Repeat("x", 1<<16),
	}
}

// made is a disk of a room.
func made(t *testing.T, room int) (*disk.Disk, *paper) {
	t.Helper()
	d, e := disk.New(room)
	if d == nil || e != api.OK {
		t.Fatalf("a room of %d: error %d", room, e)
	}
	return d, &paper{room, map[string]sheet{}}
}

// lay lays a file, of which the first bytes last, on a disk and on paper.
func lay(t *testing.T, d *disk.Disk, m *paper, name string, b []byte, last int) {
	t.Helper()
	is(t, "Append of what lasts", d.Append(name, b[:last]), api.OK)
	is(t, "Sync of what lasts", d.Sync(name), api.OK)
	is(t, "Append of what does not", d.Append(name, b[last:]), api.OK)
	m.files[name] = sheet{bytes.Clone(b), last}
}

// is asks for an error.
func is(t *testing.T, name string, e, want api.Errno) {
	t.Helper()
	if e != want {
		t.Errorf("%s: error %d, not %d", name, e, want)
	}
}

// hasFiles asks whether a disk has just the files that are on paper, byte by byte.
func hasFiles(t *testing.T, name string, d *disk.Disk, m *paper) {
	t.Helper()
	if l := d.List(); !slices.Equal(l, m.names()) {
		t.Errorf("%s: files %q, not %q", name, l, m.names())
	}
	for file, s := range m.files {
		if b, e := d.Read(file); e != api.OK || !bytes.Equal(b, s.b) {
			t.Errorf("%s: %q is %.40x of %d bytes, error %d, not %.40x of %d", name, file, b, len(b), e, s.b, len(s.b))
		}
	}
}

// agrees asks whether a disk has just the files that are on paper, and what lasts of each: of bytes that do not last, the draw 0 or 1 takes some.
func agrees(t *testing.T, name string, d *disk.Disk, m *paper) {
	t.Helper()
	hasFiles(t, name, d, m)
	for draw := range 2 {
		c, n := d.Copy(), m.copy()
		c.Crash(draw)
		n.crash(draw)
		hasFiles(t, name+", crashed", c, n)
	}
}

// isLog asks a log for its Bounds and for every entry that is on paper, and for none ahead of them or behind.
func isLog(t *testing.T, name string, l *wal.Log, w *book) {
	t.Helper()
	first, next := l.Bounds()
	if first != w.first() || next != w.next {
		t.Errorf("%s: Bounds are %d, %d, not %d, %d", name, first, next, w.first(), w.next)
	}
	if len(w.entries) != w.next-w.first() {
		t.Fatalf("%s: %d entries on paper from %d to %d", name, len(w.entries), w.first(), w.next)
	}
	for i, want := range w.entries {
		if p, e := l.Get(i); e != api.OK || !bytes.Equal(p, want) {
			t.Errorf("%s: the entry %d is %.40x of %d bytes, error %d, not %.40x of %d", name, i, p, len(p), e, want, len(want))
		}
	}
	for _, i := range []int{math.MinInt, -1, 0, w.first() - 1, w.next, w.next + 1, math.MaxInt} {
		isNone(t, name, l, i)
	}
}

// isNone asks Get for ErrNone and nothing beside it.
func isNone(t *testing.T, name string, l *wal.Log, i int) {
	t.Helper()
	if p, e := l.Get(i); e != api.ErrNone || len(p) != 0 {
		t.Errorf("%s: the entry %d is %.40x of %d bytes, error %d, not %d", name, i, p, len(p), e, api.ErrNone)
	}
}

// pair is a log and its disk, and both on paper: what is done to the one is done to the other, and they are held against each other.
type pair struct {
	t *testing.T
	d *disk.Disk
	m *paper
	l *wal.Log
	w *book
}

// begun is a log on an empty disk.
func begun(t *testing.T, room int, prefix string) *pair {
	t.Helper()
	d, m := made(t, room)
	return open(t, d, m, prefix)
}

// open is a log that is opened on a disk, as on paper.
func open(t *testing.T, d *disk.Disk, m *paper, prefix string) *pair {
	t.Helper()
	l, e := wal.Open(d, prefix)
	if l == nil || e != api.OK {
		t.Fatalf("Open of %q: error %d", prefix, e)
	}
	x := &pair{t, d, m, l, opened(m, prefix)}
	x.agrees("Open")
	return x
}

// agrees asks whether log and disk are as on paper, and what a new Open would say.
func (x *pair) agrees(name string) {
	x.t.Helper()
	agrees(x.t, name, x.d, x.m)
	isLog(x.t, name, x.l, x.w)
	c, n := x.d.Copy(), x.m.copy()
	l, e := wal.Open(c, x.w.prefix)
	is(x.t, name+": a new Open", e, api.OK)
	isLog(x.t, name+", opened anew", l, opened(n, x.w.prefix))
	agrees(x.t, name+", opened anew", c, n)
}

// append is Append, as on paper.
func (x *pair) append(p []byte) api.Errno {
	x.t.Helper()
	i, e := x.l.Append(p)
	want, wantE := x.w.append(p)
	if i != want || e != wantE {
		x.t.Errorf("Append of %d bytes is %d, error %d, not %d, %d", len(p), i, e, want, wantE)
	}
	x.agrees("Append")
	return e
}

// laid is an Append that is done.
func (x *pair) laid(p []byte) {
	x.t.Helper()
	is(x.t, "Append", x.append(p), api.OK)
}

// filled is Appends of n entries of so many bytes each.
func (x *pair) filled(n, size int) {
	x.t.Helper()
	for i := range n {
		x.laid(row(size, uint64(1000*n+i)))
	}
}

// sync is Sync, as on paper.
func (x *pair) sync() {
	x.t.Helper()
	is(x.t, "Sync", x.l.Sync(), api.OK)
	x.w.sync()
	x.agrees("Sync")
}

// cut is Cut, as on paper.
func (x *pair) cut(i int) api.Errno {
	x.t.Helper()
	e := x.l.Cut(i)
	is(x.t, "Cut", e, x.w.cut(i))
	x.agrees("Cut")
	return e
}

// drop is Drop, as on paper.
func (x *pair) drop(i int) api.Errno {
	x.t.Helper()
	e := x.l.Drop(i)
	is(x.t, "Drop", e, x.w.drop(i))
	x.agrees("Drop")
	return e
}

// crash is a Crash of the disk and an Open behind it, as on paper.
func (x *pair) crash(draw int) {
	x.t.Helper()
	x.d.Crash(draw)
	x.m.crash(draw)
	x.anew()
}

// anew is another Open, as on paper.
func (x *pair) anew() {
	x.t.Helper()
	y := open(x.t, x.d, x.m, x.w.prefix)
	x.l, x.w = y.l, y.w
}

// bounds asks for the Bounds.
func (x *pair) bounds(first, next int) {
	x.t.Helper()
	if f, n := x.l.Bounds(); f != first || n != next {
		x.t.Errorf("Bounds are %d, %d, not %d, %d", f, n, first, next)
	}
}

// files asks for the names of all files on the disk.
func (x *pair) files(want ...string) {
	x.t.Helper()
	if l := x.d.List(); !slices.Equal(l, want) {
		x.t.Errorf("files %q, not %q", l, want)
	}
}
