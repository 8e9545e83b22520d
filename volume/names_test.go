package volume_test

import (
	"bytes"
	"encoding/hex"
	"math"
	"strings"
	"testing"

	"garner/api"
	"garner/volume"
)

// ids are such as a volume may have.
func ids() []int {
	return []int{0, 1, 7, 9, 10, 255, 256, 4711, 65535, 65536, 1 << 24, 9999999, 10000000, 12345678, 99999998, 99999999}
}

// wrongIDs are such as no volume has.
func wrongIDs() []int {
	return []int{-1, -2, -7, -99999999, math.MinInt, math.MinInt + 1, -1 << 31, -1 << 32, 100000000, 100000001, 123456789, 1<<31 - 1, 1 << 31, 1 << 32, 1<<32 + 7, math.MaxInt - 1, math.MaxInt}
}

// TestP12_1Name is the name of each id that there is, and none of those that are none.
func TestP12_1Name(t *testing.T) {
	for _, id := range ids() {
		if name := volume.Name(id); name != named(id) {
			t.Errorf("Name(%d) is %q, not %q", id, name, named(id))
		}
	}
	for id := 0; id < 100000000; id += 98765 {
		if name := volume.Name(id); name != named(id) {
			t.Errorf("Name(%d) is %q, not %q", id, name, named(id))
		}
	}
	for id, want := range map[int]string{0: "v00000000.dat", 7: "v00000007.dat", 1234567: "v01234567.dat", 99999999: "v99999999.dat"} {
		if name := volume.Name(id); name != want {
			t.Errorf("Name(%d) is %q, not %q", id, name, want)
		}
	}
	for _, id := range wrongIDs() {
		if name := volume.Name(id); name != "" {
			t.Errorf("Name(%d) is %q", id, name)
		}
	}
}

// TestP12_1Create is a new volume of each id: its file has the head, and it lasts.
func TestP12_1Create(t *testing.T) {
	for _, id := range ids() {
		x := begun(t, 1<<20, id)
		x.d.Crash(0)
		x.agrees("crashed")
		x.anew()
		x.has(living(1, 5, 2))
	}
	for id, want := range map[int]string{0: "67760100 00000000", 7: "67760100 00000007", 65536: "67760100 00010000", 99999999: "67760100 05f5e0ff"} {
		d := made(t, 8)
		_, e := volume.Create(d, id)
		is(t, "Create", e, api.OK)
		wanted, _ := hex.DecodeString(strings.ReplaceAll(want, " ", ""))
		if b, e := d.Read(named(id)); e != api.OK || !bytes.Equal(b, wanted) || len(d.List()) != 1 {
			t.Errorf("%d: the file is %x, error %d, not %x", id, b, e, wanted)
		}
	}
}

// TestP12_1CreateRefused is Create without a disk, without an id, and over a file that is there, whatever it is: nothing is done then.
func TestP12_1CreateRefused(t *testing.T) {
	for _, id := range append(ids(), wrongIDs()...) {
		v, e := volume.Create(nil, id)
		isNothing(t, "no disk", v, e, api.ErrArg)
	}
	for _, room := range []int{0, 1 << 20} {
		d := made(t, room)
		for _, id := range wrongIDs() {
			v, e := volume.Create(d, id)
			isNothing(t, "no id", v, e, api.ErrArg)
		}
		alike(t, "no id", d, made(t, room))
	}
	for _, b := range [][]byte{nil, {0}, headOf(7), headOf(8), filed(7, living(1, 2, 3)), row(100, 1)} {
		for last := range min(len(b), 9) + 1 {
			// One of them has room for the head, the other one has not.
			for _, room := range []int{len(b), 1 << 20} {
				d := made(t, room)
				lay(t, d, named(7), b, last)
				c := d.Copy()
				v, e := volume.Create(d, 7)
				isNothing(t, "a file that is there", v, e, api.ErrHas)
				alike(t, "a file that is there", d, c)
			}
		}
	}
}

// TestP12_1CreateFull is Create on a disk without room for the head, or for a file: it is gone then.
func TestP12_1CreateFull(t *testing.T) {
	for room := range 20 {
		d := made(t, room)
		v, e := volume.Create(d, 7)
		if room >= 8 {
			is(t, "room", e, api.OK)
			continue
		}
		isNothing(t, "no room", v, e, api.ErrFull)
		alike(t, "no room", d, made(t, room))
	}
	d := made(t, 100)
	lay(t, d, "other", make([]byte, 93), 50)
	c := d.Copy()
	v, e := volume.Create(d, 7)
	isNothing(t, "no room beside another file", v, e, api.ErrFull)
	alike(t, "no room beside another file", d, c)
	is(t, "Cut", d.Cut("other", 92), api.OK)
	_, e = volume.Create(d, 7)
	is(t, "just the room", e, api.OK)

	d = made(t, 1<<20)
	for n := range api.MaxFiles {
		lay(t, d, "file "+string(rune(0x4e00+n)), nil, 0)
	}
	c = d.Copy()
	v, e = volume.Create(d, 7)
	isNothing(t, "no place", v, e, api.ErrFull)
	alike(t, "no place", d, c)
	is(t, "Remove", d.Remove(d.List()[100]), api.OK)
	x := created(t, d, 1<<20, 7)
	x.has(living(1, 2, 3))
}

// TestP12_1Others is volumes on one disk, with files of other names beside them: none sees another.
func TestP12_1Others(t *testing.T) {
	d := made(t, 1<<20)
	for i, name := range []string{"v", "v0000007.dat", "v000000007.dat", "v00000007.da", "v00000007.dat~", "v00000007.dat.new", "V00000007.dat", "v00000007", "p00000007", "\xff", "v-0000001.dat"} {
		lay(t, d, name, filed(7, living(uint64(i), 3, i)), 9)
	}
	v, e := volume.Open(d, 7)
	isNothing(t, "files of other names", v, e, api.ErrNone)
	c := d.Copy()
	var all []*pair
	for _, id := range ids() {
		all = append(all, created(t, d, 1<<20, id))
	}
	for round := range 3 {
		for i, x := range all {
			x.put(living(uint64(i%4), uint32(round), 7*round))
			x.put(dead(uint64(round), uint32(i)))
			all[(i*5+3)%len(all)].agrees("beside others")
		}
	}
	for _, x := range all {
		x.agrees("beside others")
		x.anew()
		is(t, "Remove", d.Remove(named(x.id)), api.OK)
	}
	alike(t, "files of other names", d, c)
}
