package vacuum_test

import (
	"bytes"
	"fmt"
	"math"
	"testing"

	"garner/api"
	"garner/vacuum"
	"garner/volume"
)

// ids are such as a volume may have.
func ids() []int {
	return []int{0, 1, 7, 10, 255, 256, 65536, 1 << 24, 12345678, 99999998, 99999999}
}

// wrongIDs are such as no volume has.
func wrongIDs() []int {
	return []int{-1, -2, -99999999, math.MinInt, math.MinInt + 1, -1 << 32, 100000000, 100000001, 1<<31 - 1, 1 << 31, 1 << 32, 1<<32 + 7, math.MaxInt - 1, math.MaxInt}
}

// TestP13_1 is Begin of volumes of no, one and many needles: the shadow is begun, and as many Steps as there are keys copy it.
func TestP13_1(t *testing.T) {
	for n := range len(some()) + 1 {
		x := over(t, 1<<20, 7, filed(7, some()[:n]...))
		x.begin()
		keys := len(x.v.Places())
		for i := range keys {
			if ok, _ := x.step(1); ok != (i == keys-1) {
				t.Errorf("of %d keys %d are copied: %t", keys, i+1, ok)
			}
		}
		if ok, e := x.step(0); !ok || e != api.OK {
			t.Errorf("all is copied: %t, error %d", ok, e)
		}
	}
}

// TestP13_1IDs is Begin of each volume among others: the shadow has its name and its head.
func TestP13_1IDs(t *testing.T) {
	d := made(t, 1<<20)
	var all []*bench
	for i, id := range ids() {
		all = append(all, on(t, d, 1<<20, id, filed(id, some()[:i]...)))
	}
	for _, x := range all {
		x.begin()
	}
	for i, x := range all {
		x.step(i)
	}
	for _, x := range all {
		x.done()
	}
	for id, want := range map[int]string{0: "v00000000.dat.new", 7: "v00000007.dat.new", 99999999: "v99999999.dat.new"} {
		x := over(t, 1<<10, id, headOf(id))
		x.begin()
		if b, e := x.d.Read(want); e != api.OK || !bytes.Equal(b, headOf(id)) {
			t.Errorf("%q is %x, error %d", want, b, e)
		}
	}
}

// TestP13_1NoArg is Begin without a disk and without an id: nothing is done.
func TestP13_1NoArg(t *testing.T) {
	for _, id := range append(ids(), wrongIDs()...) {
		j, e := vacuum.Begin(nil, id)
		isNoJob(t, "no disk", j, e, api.ErrArg)
	}
	x := filled(t)
	// Files that are named as if an id that is none had a volume and a shadow.
	lay(t, x.d, ".new", row(9, 1), 3)
	lay(t, x.d, "v-0000001.dat", headOf(-1), 8)
	lay(t, x.d, "v100000000.dat", headOf(100000000), 8)
	c := x.d.Copy()
	for _, id := range wrongIDs() {
		j, e := vacuum.Begin(x.d, id)
		isNoJob(t, "no id", j, e, api.ErrArg)
	}
	alike(t, "no id", x.d, c)
}

// TestP13_1None is Begin of a volume without a file, whatever else is there.
func TestP13_1None(t *testing.T) {
	d := made(t, 1000)
	for i, name := range []string{"v0000007.dat", "v00000007.da", "v00000007.dat~", "v00000007.dat.new", "v00000008.dat", "v00000007.dat.new.new", ".new"} {
		lay(t, d, name, filed(7, living(uint64(i), 3, i)), 9)
	}
	c := d.Copy()
	for _, id := range ids() {
		j, e := vacuum.Begin(d, id)
		isNoJob(t, "no file", j, e, api.ErrNone)
	}
	alike(t, "no file", d, c)
	for _, room := range []int{0, 7, 8, 1000} {
		j, e := vacuum.Begin(made(t, room), 7)
		isNoJob(t, "an empty disk", j, e, api.ErrNone)
	}
}

// TestP13_1Form is Begin of files that are no volume's, with a shadow there and without, with room and without.
func TestP13_1Form(t *testing.T) {
	whole := filed(7, living(1, 2, 3))
	files := [][]byte{nil, {0x67}, headOf(7)[:7], headOf(8), filed(8, some()...), laid(living(1, 2, 3)), make([]byte, 100), row(100, 3)}
	for at := range 8 {
		b := bytes.Clone(whole)
		b[at] ^= 1
		files = append(files, b, whole[:at])
	}
	for _, b := range files {
		for _, more := range []int{0, 7, 8, 500} {
			for _, has := range []bool{false, true} {
				d := made(t, len(b)+more)
				lay(t, d, named(7), b, len(b)/2)
				if has {
					lay(t, d, shadowed(7), row(min(more, 3), 4), 0)
				}
				c := d.Copy()
				j, e := vacuum.Begin(d, 7)
				isNoJob(t, "no volume's file", j, e, api.ErrForm)
				alike(t, "no volume's file", d, c)
			}
		}
	}
}

// TestP13_1Has is Begin where the shadow is there, whatever it is, with room for the head and without: nothing is done, also not to what is torn.
func TestP13_1Has(t *testing.T) {
	for _, torn := range []int{0, 1, 20} {
		for _, b := range [][]byte{nil, {0}, headOf(7), filed(7, some()...), row(50, 5)} {
			for _, more := range []int{0, 7, 8, 500} {
				file := append(filed(7, some()...), row(torn, 1)...)
				d := made(t, len(file)+len(b)+more)
				lay(t, d, named(7), file, len(file)-torn)
				lay(t, d, shadowed(7), b, len(b)/2)
				c := d.Copy()
				j, e := vacuum.Begin(d, 7)
				isNoJob(t, "the shadow is there", j, e, api.ErrHas)
				alike(t, "the shadow is there", d, c)
			}
		}
	}
	x := filled(t)
	x.begin()
	x.step(2)
	for range 2 {
		c := x.d.Copy()
		j, e := vacuum.Begin(x.d, 7)
		isNoJob(t, "a second Begin", j, e, api.ErrHas)
		alike(t, "a second Begin", x.d, c)
	}
	x.step(1)
	x.done()
	x.begin()
}

// TestP13_1Full is Begin on a disk without room for the head, or for a file: nothing is done.
func TestP13_1Full(t *testing.T) {
	b := filed(7, some()...)
	for more := range 8 {
		d := made(t, len(b)+more)
		lay(t, d, named(7), b, len(b))
		c := d.Copy()
		j, e := vacuum.Begin(d, 7)
		isNoJob(t, "no room", j, e, api.ErrFull)
		alike(t, "no room", d, c)
		if vacuum.Clear(d, 7) {
			t.Error("no room: a shadow is left")
		}
	}
	x := over(t, len(b)+8, 7, b)
	x.begin()

	x = over(t, 1<<20, 7, b)
	for i := len(x.d.List()); i < api.MaxFiles; i++ {
		lay(t, x.d, fmt.Sprint("file ", i), nil, 0)
	}
	c := x.d.Copy()
	j, e := vacuum.Begin(x.d, 7)
	isNoJob(t, "no place", j, e, api.ErrFull)
	alike(t, "no place", x.d, c)
	is(t, "Remove", x.d.Remove("a"), api.OK)
	x.begin()
	x.step(1)
	x.done()
}

// TestP13_1Torn is files that end anywhere behind the head: Begin Opens the volume, so that what is torn is Cut, and what that takes away is room for the shadow's head.
func TestP13_1Torn(t *testing.T) {
	whole := filed(7, some()...)
	for n := 8; n < len(whole); n++ {
		for _, more := range []int{0, 7, 8, 1 << 12} {
			_, end := records(whole[:n], 8)
			d := made(t, n+more)
			lay(t, d, named(7), whole[:n], n)
			c := d.Copy()
			if n-end+more < 8 {
				j, e := vacuum.Begin(d, 7)
				isNoJob(t, "torn, and no room", j, e, api.ErrFull)
				alike(t, "torn, and no room", d, c)
				continue
			}
			x := &bench{t: t, d: d, room: n + more, id: 7, file: bytes.Clone(whole[:n])}
			x.begin()
			if size, _ := d.Size(named(7)); size != end {
				t.Errorf("of %d bytes %d are left, not %d", n, size, end)
			}
			x.v, _ = volume.Open(d, 7)
			x.step(1)
			if more > len(whole) {
				x.done()
			}
		}
	}
	x := filled(t)
	x.more([]byte("torn"))
	x.begin()
	x.step(3)
	// The volume goes on where the file ends now.
	x.has(living(50, 1, 7))
	x.done()
}

// TestP13_1Order is which error is named first, where more than one thing is wrong.
func TestP13_1Order(t *testing.T) {
	d := made(t, 30)
	lay(t, d, shadowed(7), row(10, 1), 5)
	lay(t, d, ".new", nil, 0)
	j, e := vacuum.Begin(d, -1)
	isNoJob(t, "no id, a file .new", j, e, api.ErrArg)
	j, e = vacuum.Begin(nil, -1)
	isNoJob(t, "no disk, no id", j, e, api.ErrArg)
	j, e = vacuum.Begin(d, 7)
	isNoJob(t, "no file, a shadow", j, e, api.ErrNone)
	lay(t, d, named(7), headOf(8), 8)
	lay(t, d, "full", make([]byte, 12), 0)
	j, e = vacuum.Begin(d, 7)
	isNoJob(t, "no volume's file, a shadow, no room", j, e, api.ErrForm)
	lay(t, d, named(7), headOf(7), 8)
	j, e = vacuum.Begin(d, 7)
	isNoJob(t, "a shadow, no room", j, e, api.ErrHas)
	is(t, "Remove", d.Remove(shadowed(7)), api.OK)
	lay(t, d, "full", make([]byte, 15), 0)
	j, e = vacuum.Begin(d, 7)
	isNoJob(t, "no room", j, e, api.ErrFull)
}
