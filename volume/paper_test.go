package volume_test

import (
	"bytes"
	"encoding/binary"
	"fmt"
	"hash/crc32"
	"math"
	"slices"
	"testing"

	"garner/api"
	"garner/disk"
	"garner/volume"
)

// row is n bytes that look drawn and are the same each time; another start gives another row.
func row(n int, start uint64) []byte {
	b := make([]byte, n)
	x := start*2 + 1
	for i := range b {
		x = x*6364136223846793005 + 1442695040888963407
		b[i] = byte(x >> 56)
	}
	return b
}

// drawn are numbers that look drawn and are the same each time.
type drawn uint64

// below is a number from 0 to n - 1.
func (x *drawn) below(n int) int {
	*x = *x*6364136223846793005 + 1442695040888963407
	return int(uint64(*x) >> 33 % uint64(n))
}

// summed is bytes with their sum behind.
func summed(b []byte) []byte {
	return binary.BigEndian.AppendUint32(bytes.Clone(b), crc32.ChecksumIEEE(b))
}

// laid is a needle's bytes as chapter 11's words have them; the needle may be one that Encode refuses.
func laid(n api.Needle) []byte {
	b := []byte{0x6e, 0x64, 0x00, 0x00}
	if n.Dead {
		b[2] = 0x01
	}
	b = binary.BigEndian.AppendUint64(b, n.Key)
	b = binary.BigEndian.AppendUint32(b, n.Cookie)
	b = binary.BigEndian.AppendUint32(b, uint32(len(n.Data)))
	b = append(summed(b), summed(n.Data)...)
	for len(b)%8 != 0 {
		b = append(b, 0)
	}
	return b
}

// sizeOf is how many bytes a needle with so much Data takes.
func sizeOf(n int) int { return (24 + n + 4 + 7) / 8 * 8 }

// decoded is chapter 11's Decode on paper: what a right needle would be laid as is held against what stands there.
func decoded(b []byte) (api.Needle, int, api.Errno) {
	if len(b) < 24 {
		return api.Needle{}, 0, api.ErrShort
	}
	n := api.Needle{Key: binary.BigEndian.Uint64(b[4:]), Cookie: binary.BigEndian.Uint32(b[12:]), Dead: b[2] == 1}
	length := binary.BigEndian.Uint32(b[16:])
	if length > api.MaxNeedle || n.Dead && length > 0 {
		return api.Needle{}, 0, api.ErrForm
	}
	n.Data = make([]byte, length)
	if !bytes.Equal(b[:24], laid(n)[:24]) {
		return api.Needle{}, 0, api.ErrForm
	}
	size := sizeOf(int(length))
	if len(b) < size {
		return api.Needle{}, 0, api.ErrShort
	}
	copy(n.Data, b[24:])
	if !bytes.Equal(b[:size], laid(n)) {
		n.Data = nil
		return n, size, api.ErrSum
	}
	return n, size, api.OK
}

// headOf is what a volume's file begins with.
func headOf(id int) []byte {
	return binary.BigEndian.AppendUint32([]byte{0x67, 0x76, 0x01, 0x00}, uint32(id))
}

// named is the name of a volume's file.
func named(id int) string { return fmt.Sprintf("v%08d.dat", id) }

// filed is a volume's file with these needles.
func filed(id int, l ...api.Needle) []byte {
	b := headOf(id)
	for _, n := range l {
		b = append(b, laid(n)...)
	}
	return b
}

// paper is a volume on paper: its file's bytes, how many of them last, and where needles were read or laid, in that order.
type paper struct {
	b    []byte
	last int
	l    []api.Place
}

// opened is Open, of a file that is there; what is left behind the needles is cut away.
func opened(id int, b []byte, last int) (*paper, api.Errno) {
	if len(b) < 8 || !bytes.Equal(b[:8], headOf(id)) {
		return nil, api.ErrForm
	}
	w := &paper{}
	at := 8
	for {
		n, size, e := decoded(b[at:])
		if e == api.ErrShort || e == api.ErrForm {
			break
		}
		w.l = append(w.l, placeOf(n, at, size))
		at += size
	}
	w.b, w.last = bytes.Clone(b[:at]), min(last, at)
	return w, api.OK
}

// placeOf is a needle's place.
func placeOf(n api.Needle, at, size int) api.Place {
	return api.Place{Key: n.Key, At: at, N: size, Cookie: n.Cookie, Dead: n.Dead}
}

// there is what is there of a key.
func (w *paper) there(key uint64) (api.Place, bool) {
	for _, p := range w.l {
		if p.Key == key && p.Dead {
			return p, true
		}
	}
	for _, p := range w.l {
		if p.Key == key {
			return p, true
		}
	}
	return api.Place{}, false
}

// places is Places.
func (w *paper) places() []api.Place {
	var keys []uint64
	for _, p := range w.l {
		keys = append(keys, p.Key)
	}
	slices.Sort(keys)
	var l []api.Place
	for _, key := range slices.Compact(keys) {
		p, _ := w.there(key)
		l = append(l, p)
	}
	return l
}

// right is the needle of a place, if it is not damaged, and still there.
func (w *paper) right(p api.Place) (api.Needle, bool) {
	if p.At > len(w.b) {
		return api.Needle{}, false
	}
	n, size, e := decoded(w.b[p.At:])
	return n, e == api.OK && size == p.N && n.Key == p.Key && n.Cookie == p.Cookie && n.Dead == p.Dead
}

// needles is Needles.
func (w *paper) needles() []api.Needle {
	var l []api.Needle
	for _, p := range w.places() {
		if n, ok := w.right(p); ok {
			l = append(l, n)
		}
	}
	return l
}

// get is Get.
func (w *paper) get(key uint64, cookie uint32) ([]byte, api.Errno) {
	p, ok := w.there(key)
	if !ok {
		return nil, api.ErrNone
	}
	if p.Dead {
		return nil, api.ErrDead
	}
	if p.Cookie != cookie {
		return nil, api.ErrCook
	}
	n, ok := w.right(p)
	if !ok {
		return nil, api.ErrSum
	}
	return n.Data, api.OK
}

// dirt is Dirt: each byte of the file is asked whose it is.
func (w *paper) dirt() int {
	whose := make([]bool, len(w.b))
	l := append(w.places(), api.Place{At: 0, N: 8})
	for _, p := range l {
		for i := p.At; i < p.At+p.N && i < len(whose); i++ {
			whose[i] = true
		}
	}
	dirt := 0
	for _, is := range whose {
		if !is {
			dirt++
		}
	}
	return dirt
}

// put is Put, on a disk that has so many bytes left.
func (w *paper) put(n api.Needle, left int) api.Errno {
	if n.Dead && len(n.Data) > 0 {
		return api.ErrArg
	}
	if len(n.Data) > api.MaxNeedle {
		return api.ErrLong
	}
	p, ok := w.there(n.Key)
	if p.Dead {
		return api.ErrDead
	}
	if ok && !n.Dead {
		return api.ErrHas
	}
	b := laid(n)
	if len(w.b)+len(b) > api.MaxVolume || len(b) > left {
		return api.ErrFull
	}
	w.l = append(w.l, placeOf(n, len(w.b), len(b)))
	w.b = append(w.b, b...)
	w.last = len(w.b)
	return api.OK
}

// crashed is what a Crash leaves of the file, if it is the i-th of the disk.
func (w *paper) crashed(draw, i int) []byte {
	ways := len(w.b) - w.last + 1
	return w.b[:w.last+(draw%ways+i)%ways]
}

// show is a needle in words.
func show(n api.Needle) string {
	return fmt.Sprintf("{%d, %d, dead %t, %d bytes %.20x}", n.Key, n.Cookie, n.Dead, len(n.Data), n.Data)
}

// showAll is needles in words.
func showAll(l []api.Needle) string {
	s := fmt.Sprint(len(l), ":")
	for _, n := range l[:min(len(l), 10)] {
		s += " " + show(n)
	}
	return s
}

// same tells whether two needles are the same.
func same(n, m api.Needle) bool {
	return n.Key == m.Key && n.Cookie == m.Cookie && n.Dead == m.Dead && bytes.Equal(n.Data, m.Data)
}

// is asks for an error.
func is(t *testing.T, name string, e, want api.Errno) {
	t.Helper()
	if e != want {
		t.Errorf("%s: error %d, not %d", name, e, want)
	}
}

// made is a disk of a room.
func made(t *testing.T, room int) *disk.Disk {
	t.Helper()
	d, e := disk.New(room)
	if d == nil || e != api.OK {
		t.Fatalf("a room of %d: error %d", room, e)
	}
	return d
}

// lay lays a file on a disk, of which the first bytes last, in the place of one that is there.
func lay(t *testing.T, d *disk.Disk, name string, b []byte, last int) {
	t.Helper()
	d.Remove(name)
	is(t, "Append of what lasts", d.Append(name, b[:last]), api.OK)
	is(t, "Sync of what lasts", d.Sync(name), api.OK)
	is(t, "Append of what does not", d.Append(name, b[last:]), api.OK)
}

// alike asks whether two disks have the same files, and whether as much of each lasts.
func alike(t *testing.T, name string, d, c *disk.Disk) {
	t.Helper()
	for draw := -1; draw < 2; draw++ {
		if !slices.Equal(d.List(), c.List()) {
			t.Errorf("%s: files %q, not %q", name, d.List(), c.List())
		}
		for _, file := range c.List() {
			b, _ := d.Read(file)
			if want, _ := c.Read(file); !bytes.Equal(b, want) {
				t.Errorf("%s: %q is %.40x of %d bytes, not %.40x of %d", name, file, b, len(b), want, len(want))
			}
		}
		d, c = d.Copy(), c.Copy()
		d.Crash(draw + 1)
		c.Crash(draw + 1)
	}
}

// isNothing asks Create or Open for an error and no volume.
func isNothing(t *testing.T, name string, v *volume.Vol, e, want api.Errno) {
	t.Helper()
	if v != nil || e != want {
		t.Errorf("%s: a volume %t, error %d, not %d", name, v != nil, e, want)
	}
}

// isGot asks Get for what it must say.
func isGot(t *testing.T, name string, v *volume.Vol, key uint64, cookie uint32, want []byte, wantE api.Errno) {
	t.Helper()
	if b, e := v.Get(key, cookie); e != wantE || !bytes.Equal(b, want) {
		t.Errorf("%s: Get(%d, %d) is %.40x of %d bytes, error %d, not %.40x of %d, %d", name, key, cookie, b, len(b), e, want, len(want), wantE)
	}
}

// isVolume asks a volume for all that it tells.
func isVolume(t *testing.T, name string, v *volume.Vol, w *paper) {
	t.Helper()
	if l, want := v.Places(), w.places(); !slices.Equal(l, want) {
		t.Errorf("%s: Places are %v, not %v", name, l, want)
	}
	if l, want := v.Needles(), w.needles(); !slices.EqualFunc(l, want, same) {
		t.Errorf("%s: Needles are %s, not %s", name, showAll(l), showAll(want))
	}
	if n := v.Size(); n != len(w.b) {
		t.Errorf("%s: Size is %d, not %d", name, n, len(w.b))
	}
	if n, want := v.Dirt(), w.dirt(); n != want {
		t.Errorf("%s: Dirt is %d, not %d", name, n, want)
	}
	asked := []api.Place{{}, {Key: 1}, {Key: 2, Cookie: 1}, {Key: math.MaxUint64, Cookie: math.MaxUint32}, {Key: 1 << 32}}
	for _, p := range w.places() {
		asked = append(asked, p, api.Place{Key: p.Key, Cookie: p.Cookie + 1}, api.Place{Key: p.Key, Cookie: p.Cookie ^ 1<<31}, api.Place{Key: p.Key + 1, Cookie: p.Cookie})
	}
	for _, p := range asked {
		want, e := w.get(p.Key, p.Cookie)
		isGot(t, name, v, p.Key, p.Cookie, want, e)
	}
}

// pair is a volume on a disk, and on paper: what is done to the one is done to the other, and they are held against each other.
type pair struct {
	t    *testing.T
	d    *disk.Disk
	room int
	id   int
	v    *volume.Vol
	w    *paper
}

// created is a new volume on a disk.
func created(t *testing.T, d *disk.Disk, room, id int) *pair {
	t.Helper()
	v, e := volume.Create(d, id)
	if v == nil || e != api.OK {
		t.Fatalf("Create of %d: error %d", id, e)
	}
	x := &pair{t, d, room, id, v, &paper{headOf(id), 8, nil}}
	x.agrees("Create")
	return x
}

// begun is a new volume on an empty disk.
func begun(t *testing.T, room, id int) *pair {
	t.Helper()
	return created(t, made(t, room), room, id)
}

// over is a volume that is opened over a file's bytes, all of which last or none.
func over(t *testing.T, name string, id int, b []byte, last int) *pair {
	t.Helper()
	d := made(t, 1<<23)
	lay(t, d, named(id), b, last)
	w, e := opened(id, b, last)
	if e != api.OK {
		t.Fatalf("%s: no volume on paper", name)
	}
	v, e := volume.Open(d, id)
	if v == nil || e != api.OK {
		t.Fatalf("%s: Open of %d: error %d", name, id, e)
	}
	x := &pair{t, d, 1 << 23, id, v, w}
	x.agrees(name)
	return x
}

// agrees asks whether volume and file are as on paper, what of the file lasts, and what a new Open tells.
func (x *pair) agrees(name string) {
	x.t.Helper()
	file := named(x.id)
	if b, e := x.d.Read(file); e != api.OK || !bytes.Equal(b, x.w.b) {
		x.t.Errorf("%s: the file is %.80x of %d bytes, error %d, not %.80x of %d", name, b, len(b), e, x.w.b, len(x.w.b))
	}
	i := slices.Index(x.d.List(), file)
	for draw := range 2 {
		c := x.d.Copy()
		c.Crash(draw)
		if b, _ := c.Read(file); !bytes.Equal(b, x.w.crashed(draw, i)) {
			x.t.Errorf("%s: %d bytes of the file are left by the draw %d, not %d", name, len(b), draw, len(x.w.crashed(draw, i)))
		}
	}
	isVolume(x.t, name, x.v, x.w)
	x.copied(name)
}

// copied asks what a new Open tells, on a Copy of the disk.
func (x *pair) copied(name string) {
	x.t.Helper()
	c := x.d.Copy()
	v, e := volume.Open(c, x.id)
	w, wantE := opened(x.id, x.w.b, x.w.last)
	is(x.t, name+", opened anew", e, wantE)
	if e != api.OK || wantE != api.OK {
		return
	}
	isVolume(x.t, name+", opened anew", v, w)
	if b, _ := c.Read(named(x.id)); !bytes.Equal(b, w.b) {
		x.t.Errorf("%s, opened anew: the file is %.80x of %d bytes, not %.80x of %d", name, b, len(b), w.b, len(w.b))
	}
}

// put is Put, as on paper.
func (x *pair) put(n api.Needle) api.Errno {
	x.t.Helper()
	want := x.w.put(n, x.room-x.d.Used())
	e := x.v.Put(n)
	is(x.t, "Put of "+show(n), e, want)
	x.agrees("Put")
	return e
}

// has is a Put that is done.
func (x *pair) has(n api.Needle) {
	x.t.Helper()
	is(x.t, "Put of "+show(n), x.put(n), api.OK)
}

// anew is another Open, as on paper.
func (x *pair) anew() {
	x.t.Helper()
	w, wantE := opened(x.id, x.w.b, x.w.last)
	v, e := volume.Open(x.d, x.id)
	if e != api.OK || wantE != api.OK {
		x.t.Fatalf("Open of %d: error %d, not %d", x.id, e, wantE)
	}
	x.v, x.w = v, w
	x.agrees("a new Open")
}

// crash is a Crash of a disk, as on paper, and another Open of volumes on it.
func crash(draw int, l ...*pair) {
	for _, x := range l {
		i := slices.Index(x.d.List(), named(x.id))
		x.w.b = bytes.Clone(x.w.crashed(max(draw, 0), i))
		x.w.last = len(x.w.b)
	}
	l[0].d.Crash(draw)
	for _, x := range l {
		x.t.Helper()
		x.anew()
	}
}

// rot changes a byte of the file behind the volume's back, as on paper.
func (x *pair) rot(at int, by byte) {
	x.t.Helper()
	is(x.t, "Rot", x.d.Rot(named(x.id), at, by), api.OK)
	x.w.b[at] ^= by
}

// cut takes bytes of the file away behind the volume's back, as on paper.
func (x *pair) cut(n int) {
	x.t.Helper()
	is(x.t, "Cut", x.d.Cut(named(x.id), n), api.OK)
	x.w.b = x.w.b[:n:n]
	x.w.last = min(x.w.last, n)
}

// more lays bytes behind the file behind the volume's back, as on paper; they do not last.
func (x *pair) more(b []byte) {
	x.t.Helper()
	is(x.t, "Append", x.d.Append(named(x.id), b), api.OK)
	x.w.b = append(x.w.b, b...)
}

// living is a needle that lives, with n bytes.
func living(key uint64, cookie uint32, n int) api.Needle {
	return api.Needle{Key: key, Cookie: cookie, Data: row(n, key^uint64(cookie)<<32)}
}

// dead is a mark.
func dead(key uint64, cookie uint32) api.Needle {
	return api.Needle{Key: key, Cookie: cookie, Dead: true}
}
