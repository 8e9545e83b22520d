package vacuum_test

import (
	"bytes"
	"encoding/binary"
	"fmt"
	"hash/crc32"
	"math"
	"slices"
	"testing"

	"garner/api"
	"garner/disk"
	"garner/vacuum"
	"garner/volume"
)

// row is n bytes that look drawn and are the same each time; another start gives another row.
func row(n int, start uint64) []byte {
	b := make([]byte, n)
	x := start*2 + 1
	for i := range b {
		x = x*6364136223846793005 + 1442695040888963407
		b[i] = byte(x >> 56)
	}
	return b
}

// drawn are numbers that look drawn and are the same each time.
type drawn uint64

// below is a number from 0 to n - 1.
func (x *drawn) below(n int) int {
	*x = *x*6364136223846793005 + 1442695040888963407
	return int(uint64(*x) >> 33 % uint64(n))
}

// living is a needle that lives, with n bytes.
func living(key uint64, cookie uint32, n int) api.Needle {
	return api.Needle{Key: key, Cookie: cookie, Data: row(n, key^uint64(cookie)<<32)}
}

// dead is a mark.
func dead(key uint64, cookie uint32) api.Needle {
	return api.Needle{Key: key, Cookie: cookie, Dead: true}
}

// summed is bytes with their sum behind.
func summed(b []byte) []byte {
	return binary.BigEndian.AppendUint32(bytes.Clone(b), crc32.ChecksumIEEE(b))
}

// laid is a needle's bytes as chapter 11's words have them.
func laid(n api.Needle) []byte {
	b := []byte{0x6e, 0x64, 0x00, 0x00}
	if n.Dead {
		b[2] = 0x01
	}
	b = binary.BigEndian.AppendUint64(b, n.Key)
	b = binary.BigEndian.AppendUint32(b, n.Cookie)
	b = binary.BigEndian.AppendUint32(b, uint32(len(n.Data)))
	b = append(summed(b), summed(n.Data)...)
	for len(b)%8 != 0 {
		b = append(b, 0)
	}
	return b
}

// decoded is chapter 11's Decode on paper.
func decoded(b []byte) (api.Needle, int, api.Errno) {
	if len(b) < 24 {
		return api.Needle{}, 0, api.ErrShort
	}
	n := api.Needle{Key: binary.BigEndian.Uint64(b[4:]), Cookie: binary.BigEndian.Uint32(b[12:]), Dead: b[2] == 1}
	length := binary.BigEndian.Uint32(b[16:])
	if length > api.MaxNeedle || n.Dead && length > 0 {
		return api.Needle{}, 0, api.ErrForm
	}
	n.Data = make([]byte, length)
	if !bytes.Equal(b[:24], laid(n)[:24]) {
		return api.Needle{}, 0, api.ErrForm
	}
	size := (24 + int(length) + 4 + 7) / 8 * 8
	if len(b) < size {
		return api.Needle{}, 0, api.ErrShort
	}
	copy(n.Data, b[24:])
	if !bytes.Equal(b[:size], laid(n)) {
		n.Data = nil
		return n, size, api.ErrSum
	}
	return n, size, api.OK
}

// headOf is what a volume's file begins with.
func headOf(id int) []byte {
	return binary.BigEndian.AppendUint32([]byte{0x67, 0x76, 0x01, 0x00}, uint32(id))
}

// named is the name of a volume's file.
func named(id int) string { return fmt.Sprintf("v%08d.dat", id) }

// shadowed is the name of a volume's shadow.
func shadowed(id int) string { return named(id) + ".new" }

// filed is a volume's file with these needles.
func filed(id int, l ...api.Needle) []byte {
	b := headOf(id)
	for _, n := range l {
		b = append(b, laid(n)...)
	}
	return b
}

// records are the places of the needles in a file from at on, damaged or not, up to the first place where there is none; and that place.
func records(b []byte, at int) ([]api.Place, int) {
	var l []api.Place
	for {
		n, size, e := decoded(b[at:])
		if e == api.ErrShort || e == api.ErrForm {
			return l, at
		}
		l = append(l, api.Place{Key: n.Key, At: at, N: size, Cookie: n.Cookie, Dead: n.Dead})
		at += size
	}
}

// there is what is there of each key of a file, in the order of the file: of each record it is asked whether it is the one that counts.
func there(b []byte) []api.Place {
	l, _ := records(b, 8)
	isMark := map[uint64]bool{}
	first := map[uint64]int{}
	for i, p := range l {
		if _, ok := first[p.Key]; !ok || p.Dead && !isMark[p.Key] {
			first[p.Key] = i
			isMark[p.Key] = p.Dead
		}
	}
	var there []api.Place
	for i, p := range l {
		if first[p.Key] == i {
			there = append(there, p)
		}
	}
	return there
}

// byKey is places by their keys.
func byKey(l []api.Place) []api.Place {
	l = slices.Clone(l)
	slices.SortFunc(l, func(p, q api.Place) int {
		if p.Key < q.Key {
			return -1
		}
		return 1
	})
	return l
}

// got is chapter 12's Get of a file's bytes, in which l is there.
func got(b []byte, l []api.Place, key uint64, cookie uint32) ([]byte, api.Errno) {
	i := slices.IndexFunc(l, func(p api.Place) bool { return p.Key == key })
	switch {
	case i < 0:
		return nil, api.ErrNone
	case l[i].Dead:
		return nil, api.ErrDead
	case l[i].Cookie != cookie:
		return nil, api.ErrCook
	}
	n, _, e := decoded(b[l[i].At:])
	return n.Data, e
}

// own is a record's own bytes.
func own(b []byte, p api.Place) []byte { return b[p.At : p.At+p.N] }

// renewed is the file that a job makes of one that had from bytes at Begin.
func renewed(b []byte, from int) []byte {
	whole := bytes.Clone(b[:8])
	for _, p := range there(b[:from]) {
		whole = append(whole, own(b, p)...)
	}
	since, _ := records(b, from)
	for _, p := range since {
		whole = append(whole, own(b, p)...)
	}
	return whole
}

// is asks for an error.
func is(t *testing.T, name string, e, want api.Errno) {
	t.Helper()
	if e != want {
		t.Errorf("%s: error %d, not %d", name, e, want)
	}
}

// made is a disk of a room.
func made(t *testing.T, room int) *disk.Disk {
	t.Helper()
	d, e := disk.New(room)
	if d == nil || e != api.OK {
		t.Fatalf("a room of %d: error %d", room, e)
	}
	return d
}

// lay lays a file on a disk, of which the first bytes last, in the place of one that is there.
func lay(t *testing.T, d *disk.Disk, name string, b []byte, last int) {
	t.Helper()
	d.Remove(name)
	is(t, "Append of what lasts", d.Append(name, b[:last]), api.OK)
	is(t, "Sync of what lasts", d.Sync(name), api.OK)
	is(t, "Append of what does not", d.Append(name, b[last:]), api.OK)
}

// alike asks whether two disks have the same files, and whether as much of each lasts.
func alike(t *testing.T, name string, d, c *disk.Disk) {
	t.Helper()
	for draw := -1; draw < 2; draw++ {
		if !slices.Equal(d.List(), c.List()) {
			t.Errorf("%s: files %q, not %q", name, d.List(), c.List())
		}
		for _, file := range c.List() {
			b, _ := d.Read(file)
			if want, _ := c.Read(file); !bytes.Equal(b, want) {
				t.Errorf("%s: %q is %.40x of %d bytes, not %.40x of %d", name, file, b, len(b), want, len(want))
			}
		}
		d, c = d.Copy(), c.Copy()
		d.Crash(draw + 1)
		c.Crash(draw + 1)
	}
}

// without is a Copy of a disk that lacks some files.
func without(d *disk.Disk, names ...string) *disk.Disk {
	c := d.Copy()
	for _, name := range names {
		c.Remove(name)
	}
	return c
}

// asked are keys and cookies that a volume with this file is asked for: such as it has, others, wrong ones.
func asked(b []byte) []api.Place {
	l := []api.Place{{}, {Key: math.MaxUint64, Cookie: math.MaxUint32}}
	all, _ := records(b, 8)
	for _, p := range all {
		l = append(l, api.Place{Key: p.Key, Cookie: p.Cookie}, api.Place{Key: p.Key, Cookie: p.Cookie + 1}, api.Place{Key: p.Key + 1, Cookie: p.Cookie})
	}
	return l
}

// isVolume asks a volume for all that one with this file answers.
func isVolume(t *testing.T, name string, v *volume.Vol, b []byte) {
	t.Helper()
	places := byKey(there(b))
	if l := v.Places(); !slices.Equal(l, places) {
		t.Errorf("%s: Places are %v, not %v", name, l, places)
	}
	dirt := len(b) - 8
	var needles []api.Needle
	for _, p := range places {
		dirt -= p.N
		if n, _, e := decoded(b[p.At:]); e == api.OK {
			needles = append(needles, n)
		}
	}
	if l := v.Needles(); !slices.EqualFunc(l, needles, same) {
		t.Errorf("%s: %d Needles, not %d, or others", name, len(l), len(needles))
	}
	if v.Size() != len(b) || v.Dirt() != dirt {
		t.Errorf("%s: Size is %d, Dirt is %d, not %d, %d", name, v.Size(), v.Dirt(), len(b), dirt)
	}
	for _, p := range asked(b) {
		want, wantE := got(b, places, p.Key, p.Cookie)
		if data, e := v.Get(p.Key, p.Cookie); e != wantE || !bytes.Equal(data, want) {
			t.Errorf("%s: Get(%d, %d) is %d bytes, error %d, not %d, %d", name, p.Key, p.Cookie, len(data), e, len(want), wantE)
		}
	}
}

// same tells whether two needles are the same.
func same(n, m api.Needle) bool {
	return n.Key == m.Key && n.Cookie == m.Cookie && n.Dead == m.Dead && bytes.Equal(n.Data, m.Data)
}

// isNoJob asks Begin for an error and no job.
func isNoJob(t *testing.T, name string, j *vacuum.Job, e, want api.Errno) {
	t.Helper()
	if j != nil || e != want {
		t.Errorf("%s: a job %t, error %d, not %d", name, j != nil, e, want)
	}
}

// isEnded asks a job for ErrArg and nothing else, whatever it is called.
func isEnded(t *testing.T, name string, j *vacuum.Job) {
	t.Helper()
	for range 2 {
		for _, n := range steps() {
			if ok, e := j.Step(n); ok || e != api.ErrArg {
				t.Errorf("%s: Step(%d) is %t, error %d", name, n, ok, e)
			}
		}
		if v, e := j.Commit(); v != nil || e != api.ErrArg {
			t.Errorf("%s: Commit is a volume %t, error %d", name, v != nil, e)
		}
	}
}

// steps are numbers that Step is given: below 0, around it, small, at both ends of their type.
func steps() []int {
	return []int{math.MinInt, math.MinInt + 1, -1 << 32, -1, 0, 1, 2, 3, 1 << 31, 1 << 32, math.MaxInt - 1, math.MaxInt}
}

// draws are numbers that Crash is given: around 0, small, at both ends of their type.
func draws() []int {
	l := []int{math.MinInt, -1, 999, 1<<31 - 1, 1 << 62, math.MaxInt}
	for i := range 12 {
		l = append(l, i*i)
	}
	return l
}

// bench is a volume on a disk with its job, and both on paper: what is done to the one is done to the other, and they are held against each other.
type bench struct {
	t      *testing.T
	d      *disk.Disk
	room   int
	id     int
	v      *volume.Vol // the volume as it was opened last
	j      *vacuum.Job
	file   []byte // the bytes of the volume's file, of which all last
	shadow []byte // nil, if there is none
	last   int    // how many of the shadow's bytes last
	todo   []api.Place
	from   int // how many bytes the file had at Begin
	ended  bool
	rotted bool // some byte of the file, behind Begin
}

// over is a bench of a volume that is opened over a file's bytes, with two other files beside it.
func over(t *testing.T, room, id int, b []byte) *bench {
	t.Helper()
	d := made(t, room)
	x := on(t, d, room, id, b)
	if room >= len(b)+1000 {
		lay(t, d, "a", row(30, 1), 10)
		lay(t, d, "w", row(50, 2), 20)
	}
	return x
}

// on is a bench of a volume on a disk that is there.
func on(t *testing.T, d *disk.Disk, room, id int, b []byte) *bench {
	t.Helper()
	lay(t, d, named(id), b, len(b))
	x := &bench{t: t, d: d, room: room, id: id, file: bytes.Clone(b), ended: true}
	x.open()
	return x
}

// open is another Open.
func (x *bench) open() {
	x.t.Helper()
	v, e := volume.Open(x.d, x.id)
	if v == nil || e != api.OK {
		x.t.Fatalf("Open of %d: error %d", x.id, e)
	}
	x.v = v
	_, end := records(x.file, 8)
	x.file = x.file[:end:end]
	x.agrees("Open")
}

// agrees asks whether the two files are as on paper, and what of them lasts.
func (x *bench) agrees(name string) {
	x.t.Helper()
	if b, e := x.d.Read(named(x.id)); e != api.OK || !bytes.Equal(b, x.file) {
		x.t.Errorf("%s: the file is %.80x of %d bytes, error %d, not %.80x of %d", name, b, len(b), e, x.file, len(x.file))
	}
	b, e := x.d.Read(shadowed(x.id))
	if (e == api.OK) != (x.shadow != nil) || !bytes.Equal(b, x.shadow) {
		x.t.Errorf("%s: the shadow is %.80x of %d bytes, error %d, not %.80x of %d", name, b, len(b), e, x.shadow, len(x.shadow))
	}
	i := slices.Index(x.d.List(), shadowed(x.id))
	for draw := range 2 {
		c := x.d.Copy()
		c.Crash(draw)
		if b, _ := c.Read(named(x.id)); !bytes.Equal(b, x.file) {
			x.t.Errorf("%s: of the file %d bytes last, not %d", name, len(b), len(x.file))
		}
		if b, _ := c.Read(shadowed(x.id)); i >= 0 && !bytes.Equal(b, x.crashed(draw, i)) {
			x.t.Errorf("%s: %d bytes of the shadow are left by the draw %d", name, len(b), draw)
		}
	}
}

// crashed is what a Crash leaves of the shadow, if it is the i-th file of the disk.
func (x *bench) crashed(draw, i int) []byte {
	ways := len(x.shadow) - x.last + 1
	return x.shadow[:x.last+(max(draw, 0)%ways+i)%ways]
}

// beside asks whether a call left all other files as they were.
func (x *bench) beside(name string, before *disk.Disk) {
	x.t.Helper()
	alike(x.t, name+", other files", without(x.d, named(x.id), shadowed(x.id)), without(before, named(x.id), shadowed(x.id)))
}

// put is a Put, which is done or finds no room.
func (x *bench) put(n api.Needle) api.Errno {
	x.t.Helper()
	e := x.v.Put(n)
	if e == api.OK {
		x.file = append(x.file, laid(n)...)
	}
	x.agrees("Put")
	return e
}

// has is a Put that is done.
func (x *bench) has(n api.Needle) {
	x.t.Helper()
	is(x.t, "Put", x.put(n), api.OK)
}

// begin is Begin, which must be done.
func (x *bench) begin() {
	x.t.Helper()
	before := x.d.Copy()
	j, e := vacuum.Begin(x.d, x.id)
	if j == nil || e != api.OK {
		x.t.Fatalf("Begin of %d: a job %t, error %d", x.id, j != nil, e)
	}
	_, end := records(x.file, 8)
	x.file = x.file[:end:end]
	x.j, x.shadow, x.todo, x.from, x.ended = j, headOf(x.id), there(x.file), end, false
	x.last, x.rotted = 0, false
	x.agrees("Begin")
	x.beside("Begin", before)
}

// copied copies records on paper, as long as there is room: whether there was for all of them.
func (x *bench) copied(l []api.Place, left int) (int, bool) {
	for i, p := range l {
		if p.N > left {
			return i, false
		}
		left -= p.N
		x.shadow = append(x.shadow, own(x.file, p)...)
	}
	return len(l), true
}

// step is Step, as on paper.
func (x *bench) step(n int) (bool, api.Errno) {
	x.t.Helper()
	before := x.d.Copy()
	want, wantE := false, api.ErrArg
	if !x.ended {
		done, ok := x.copied(x.todo[:min(max(n, 0), len(x.todo))], x.room-x.d.Used())
		x.todo = x.todo[done:]
		want, wantE = len(x.todo) == 0, api.OK
		if !ok {
			want, wantE = false, api.ErrFull
		}
	}
	ok, e := x.j.Step(n)
	if ok != want || e != wantE {
		x.t.Errorf("Step(%d) is %t, error %d, not %t, %d", n, ok, e, want, wantE)
	}
	x.agrees("Step")
	x.beside("Step", before)
	return ok, e
}

// commit is Commit, as on paper. What it answers is the volume then, and each key and cookie is answered what it was ahead of it.
func (x *bench) commit() api.Errno {
	x.t.Helper()
	before := x.d.Copy()
	wantE := api.ErrArg
	if !x.ended {
		wantE = api.ErrFull
		since, _ := records(x.file, x.from)
		if _, ok := x.copied(slices.Concat(x.todo, since), x.room-x.d.Used()); ok {
			wantE = api.OK
		}
	}
	file, old := x.file, x.v
	was := answers(old, file)
	v, e := x.j.Commit()
	if (v != nil) != (wantE == api.OK) || e != wantE {
		x.t.Fatalf("Commit is a volume %t, error %d, not %d", v != nil, e, wantE)
	}
	if wantE == api.OK {
		_, end := records(x.shadow, 8)
		x.v, x.file = v, x.shadow[:end:end]
	}
	if wantE != api.ErrArg {
		x.shadow, x.todo = nil, nil
	}
	x.ended = true
	x.agrees("Commit")
	x.beside("Commit", before)
	isVolume(x.t, "behind Commit", x.v, x.file)
	for i, now := range answers(x.v, file) {
		if now != was[i] && !x.rotted {
			x.t.Errorf("Commit: the answer is %s, not %s", now, was[i])
		}
	}
	isEnded(x.t, "behind Commit", x.j)
	x.agrees("calls behind Commit")
	return e
}

// done is a Commit that is done.
func (x *bench) done() {
	x.t.Helper()
	is(x.t, "Commit", x.commit(), api.OK)
}

// answers is what a volume answers to each key and cookie of a file.
func answers(v *volume.Vol, file []byte) []string {
	var l []string
	for _, p := range asked(file) {
		b, e := v.Get(p.Key, p.Cookie)
		l = append(l, fmt.Sprintf("%d %d: %d %08x", p.Key, p.Cookie, e, crc32.ChecksumIEEE(b)))
	}
	return l
}

// clear is Clear, as on paper.
func (x *bench) clear() {
	x.t.Helper()
	before := x.d.Copy()
	for _, want := range []bool{x.shadow != nil, false} {
		if ok := vacuum.Clear(x.d, x.id); ok != want {
			x.t.Errorf("Clear is %t, not %t", ok, want)
		}
		x.shadow, x.last, x.todo, x.ended, x.j = nil, 0, nil, true, nil
		x.agrees("Clear")
		x.beside("Clear", before)
	}
}

// crash is a Crash of a disk, as on paper, and another Open of volumes on it. Their jobs are gone.
func crash(draw int, l ...*bench) {
	d := l[0].d
	for _, x := range l {
		if x.shadow != nil {
			// Not nil, though nothing may be left of it.
			x.shadow = append([]byte{}, x.crashed(draw, slices.Index(d.List(), shadowed(x.id)))...)
			x.last = len(x.shadow)
		}
		x.todo, x.ended, x.j = nil, true, nil
	}
	d.Crash(draw)
	for _, x := range l {
		x.t.Helper()
		x.open()
		isVolume(x.t, "crashed", x.v, x.file)
	}
}

// rot changes a byte of the file.
func (x *bench) rot(at int, by byte) {
	x.t.Helper()
	is(x.t, "Rot", x.d.Rot(named(x.id), at, by), api.OK)
	x.file[at] ^= by
	x.rotted = true
}

// more lays bytes behind the file, so that they last.
func (x *bench) more(b []byte) {
	x.t.Helper()
	is(x.t, "Append", x.d.Append(named(x.id), b), api.OK)
	is(x.t, "Sync", x.d.Sync(named(x.id)), api.OK)
	x.file = append(x.file, b...)
}

// some is needles of several keys whose places do not rise with them: living ones of sizes at all places modulo 8, marks, some of one key.
func some() []api.Needle {
	return []api.Needle{living(5, 1, 0), dead(3, 2), living(1, 3, 5), living(4, 4, 12), dead(4, 5), living(2, 6, 3), living(9, 7, 29), dead(7, 8), living(6, 9, 10), living(8, 1, 100), dead(2, 6)}
}

// filled is a bench of the needles of some.
func filled(t *testing.T) *bench {
	t.Helper()
	return over(t, 1<<20, 7, filed(7, some()...))
}
