package disk_test

import (
	"bytes"
	"cmp"
	"slices"
	"testing"

	"garner/api"
	"garner/disk"
)

// sheet is a file as the chapter's words have it: of each byte whether it lasts.
type sheet struct {
	name  string
	b     []byte
	lasts []bool
}

// paper is a disk as the chapter's words have it, kept as a list: what the package's own one is held against.
type paper struct {
	room   int
	sheets []sheet
}

// isName tells whether a file may have that name.
func isName(name string) bool { return name != "" && len(name) <= api.MaxName }

// at is the place of a file; -1, if it is not there.
func (m *paper) at(name string) int {
	return slices.IndexFunc(m.sheets, func(s sheet) bool { return s.name == name })
}

// used is the sum of the sizes.
func (m *paper) used() int {
	n := 0
	for _, s := range m.sheets {
		n += len(s.b)
	}
	return n
}

// names are those of the files.
func (m *paper) names() []string {
	var l []string
	for _, s := range m.sheets {
		l = append(l, s.name)
	}
	return l
}

// sort puts the files in order.
func (m *paper) sort() {
	slices.SortFunc(m.sheets, func(a, b sheet) int { return cmp.Compare(a.name, b.name) })
}

// add is Append.
func (m *paper) add(name string, p []byte) api.Errno {
	i := m.at(name)
	switch {
	case !isName(name):
		return api.ErrArg
	case i < 0 && len(m.sheets) >= api.MaxFiles, m.used()+len(p) > m.room:
		return api.ErrFull
	case i < 0:
		i = len(m.sheets)
		m.sheets = append(m.sheets, sheet{name: name})
	}
	s := &m.sheets[i]
	s.b = slices.Concat(s.b, p)
	s.lasts = slices.Concat(s.lasts, make([]bool, len(p)))
	m.sort()
	return api.OK
}

// sync is Sync.
func (m *paper) sync(name string) api.Errno {
	i := m.at(name)
	if i < 0 {
		return api.ErrNone
	}
	m.sheets[i].lasts = slices.Repeat([]bool{true}, len(m.sheets[i].b))
	return api.OK
}

// rename is Rename.
func (m *paper) rename(from, to string) api.Errno {
	if !isName(to) {
		return api.ErrArg
	}
	if m.at(from) < 0 {
		return api.ErrNone
	}
	if from != to {
		m.remove(to)
	}
	m.sheets[m.at(from)].name = to
	m.sort()
	return api.OK
}

// remove is Remove.
func (m *paper) remove(name string) api.Errno {
	i := m.at(name)
	if i < 0 {
		return api.ErrNone
	}
	m.sheets = slices.Delete(m.sheets, i, i+1)
	return api.OK
}

// cut is Cut.
func (m *paper) cut(name string, n int) api.Errno {
	i := m.at(name)
	if i < 0 {
		return api.ErrNone
	}
	s := &m.sheets[i]
	if n < 0 || n > len(s.b) {
		return api.ErrArg
	}
	s.b, s.lasts = slices.Clone(s.b[:n]), slices.Clone(s.lasts[:n])
	return api.OK
}

// crash is Crash: of the bytes that do not last so many stay as are counted out one by one.
func (m *paper) crash(draw int) {
	if draw < 0 {
		draw = 0
	}
	for i := range m.sheets {
		s := &m.sheets[i]
		u := len(s.b) - lasting(s.lasts)
		stay := draw % (u + 1)
		for range i {
			stay++
			if stay == u+1 {
				stay = 0
			}
		}
		s.b = slices.Clone(s.b[:len(s.b)-u+stay])
		s.lasts = slices.Repeat([]bool{true}, len(s.b))
	}
}

// rot is Rot.
func (m *paper) rot(name string, at int, by byte) api.Errno {
	i := m.at(name)
	if i < 0 || at < 0 || at >= len(m.sheets[i].b) {
		return api.ErrNone
	}
	b := m.sheets[i].b
	for digit := range 8 {
		if by>>digit&1 == 1 {
			b[at] = b[at]&^(1<<digit) | (1-b[at]>>digit&1)<<digit
		}
	}
	return api.OK
}

// copy is Copy.
func (m *paper) copy() *paper {
	c := &paper{room: m.room}
	for _, s := range m.sheets {
		c.sheets = append(c.sheets, sheet{s.name, bytes.Clone(s.b), slices.Clone(s.lasts)})
	}
	return c
}

// lasting is how many bytes last.
func lasting(l []bool) int {
	n := 0
	for _, lasts := range l {
		if lasts {
			n++
		}
	}
	return n
}

// lastOf is how many bytes of a file last: what a crash leaves, where it is alone and nothing else stays.
func lastOf(d *disk.Disk, name string) int {
	c := d.Copy()
	for _, other := range c.List() {
		if other != name {
			c.Remove(other)
		}
	}
	c.Crash(0)
	n, _ := c.Size(name)
	return n
}

// agrees asks whether a disk has just what is written on paper.
func agrees(t *testing.T, name string, d *disk.Disk, m *paper) {
	t.Helper()
	if l := d.List(); !slices.Equal(l, m.names()) {
		t.Errorf("%s: files %q, not %q", name, l, m.names())
	}
	if d.Used() != m.used() {
		t.Errorf("%s: %d bytes, not %d", name, d.Used(), m.used())
	}
	for _, s := range m.sheets {
		isFile(t, name, d, s.name, s.b, lasting(s.lasts))
	}
}

// isFile asks for a file's bytes, and for how many of them last.
func isFile(t *testing.T, name string, d *disk.Disk, file string, want []byte, wantLast int) {
	t.Helper()
	if b, e := d.Read(file); e != api.OK || !bytes.Equal(b, want) {
		t.Errorf("%s: %q is %x, error %d, not %x", name, file, b, e, want)
	}
	if n, ok := d.Size(file); n != len(want) || !ok {
		t.Errorf("%s: %q has %d bytes, %t, not %d", name, file, n, ok, len(want))
	}
	if n := lastOf(d, file); n != wantLast {
		t.Errorf("%s: of %q %d bytes last, not %d", name, file, n, wantLast)
	}
}

// isNone asks whether a file is not there for any call.
func isNone(t *testing.T, name string, d *disk.Disk, file string) {
	t.Helper()
	if b, e := d.Read(file); len(b) != 0 || e != api.ErrNone {
		t.Errorf("%s: Read of %q is %x, error %d", name, file, b, e)
	}
	if n, ok := d.Size(file); n != 0 || ok {
		t.Errorf("%s: Size of %q is %d, %t", name, file, n, ok)
	}
	for call, e := range map[string]api.Errno{
		"Sync":           d.Sync(file),
		"Rename":         d.Rename(file, "to"),
		"Remove":         d.Remove(file),
		"Cut to nothing": d.Cut(file, 0),
		"Cut below 0":    d.Cut(file, -1),
		"Cut above":      d.Cut(file, 1),
		"Rot":            d.Rot(file, 0, 1),
		"Rot of nothing": d.Rot(file, 0, 0),
	} {
		if e != api.ErrNone {
			t.Errorf("%s: %s of %q is error %d", name, call, file, e)
		}
	}
	if slices.Contains(d.List(), file) {
		t.Errorf("%s: %q is listed", name, file)
	}
}

// is asks for an error.
func is(t *testing.T, name string, e, want api.Errno) {
	t.Helper()
	if e != want {
		t.Errorf("%s: error %d, not %d", name, e, want)
	}
}

// made is a disk of a room.
func made(t *testing.T, room int) *disk.Disk {
	t.Helper()
	d, e := disk.New(room)
	if d == nil || e != api.OK {
		t.Fatalf("a room of %d: error %d", room, e)
	}
	return d
}

// laid is a disk with room behind its files: of each so many bytes that last, so many that do not.
func laid(t *testing.T, room int, l ...sheet) (*disk.Disk, *paper) {
	t.Helper()
	d, m := made(t, room), &paper{room: room}
	for _, s := range l {
		n := lasting(s.lasts)
		is(t, "Append of what lasts", d.Append(s.name, s.b[:n]), api.OK)
		is(t, "Sync", d.Sync(s.name), api.OK)
		is(t, "Append of what does not", d.Append(s.name, s.b[n:]), api.OK)
		m.sheets = append(m.sheets, s)
	}
	m = m.copy()
	m.sort()
	return d, m
}

// of is a file of which the first bytes last.
func of(name, b string, last int) sheet {
	lasts := make([]bool, len(b))
	for i := range last {
		lasts[i] = true
	}
	return sheet{name, []byte(b), lasts}
}
