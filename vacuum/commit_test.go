package vacuum_test

import (
	"bytes"
	"encoding/hex"
	"math"
	"strings"
	"testing"

	"garner/api"
	"garner/vacuum"
	"garner/volume"
)

// TestP13_3Examples is the chapter's example, with both files byte by byte, worked out by hand.
func TestP13_3Examples(t *testing.T) {
	d := made(t, 1000)
	v, e := volume.Create(d, 7)
	is(t, "Create", e, api.OK)
	is(t, "Put 1", v.Put(api.Needle{Key: 1, Cookie: 5, Data: []byte("ab")}), api.OK)
	is(t, "Put 2", v.Put(api.Needle{Key: 2, Cookie: 5, Data: []byte("123456789")}), api.OK)
	is(t, "Put 1 Dead", v.Put(api.Needle{Key: 1, Cookie: 5, Dead: true}), api.OK)
	if v.Size() != 112 || v.Dirt() != 32 {
		t.Errorf("Size is %d, Dirt is %d", v.Size(), v.Dirt())
	}
	j, e := vacuum.Begin(d, 7)
	is(t, "Begin", e, api.OK)
	if ok, e := j.Step(9); !ok || e != api.OK {
		t.Errorf("Step(9) is %t, error %d", ok, e)
	}
	want, _ := hex.DecodeString(strings.ReplaceAll("67760100 00000007"+
		"6e640000 0000000000000002 00000005 00000009 2407a87b 313233343536373839 cbf43926 000000"+
		"6e640100 0000000000000001 00000005 00000000 8b049afb 00000000 00000000", " ", ""))
	if b, e := d.Read("v00000007.dat.new"); e != api.OK || !bytes.Equal(b, want) {
		t.Errorf("the shadow is %x, error %d, not %x", b, e, want)
	}
	v, e = j.Commit()
	is(t, "Commit", e, api.OK)
	if b, e := d.Read("v00000007.dat"); e != api.OK || !bytes.Equal(b, want) || len(d.List()) != 1 {
		t.Errorf("the file is %x, error %d, not %x", b, e, want)
	}
	if v.Size() != 8+40+32 || v.Dirt() != 0 {
		t.Errorf("Size is %d, Dirt is %d", v.Size(), v.Dirt())
	}
	isVolume(t, "the example", v, want)
}

// TestP13_3 is jobs of no Step, of one and of many ahead of Commit, of volumes of no, one and many needles; and a second job and a third one behind.
func TestP13_3(t *testing.T) {
	for n := range len(some()) + 1 {
		for _, l := range [][]int{nil, {0}, {1}, {2, 0, 1}, {-1, 3}, {1, 1, 1, 1}, {math.MaxInt}, {1, 1, 1, 1, 1, 1, 1, 1, 1, 1, 1, 1}} {
			x := over(t, 1<<20, 7, filed(7, some()[:n]...))
			want := renewed(x.file, len(x.file))
			x.begin()
			for _, n := range l {
				x.step(n)
			}
			x.done()
			if !bytes.Equal(x.file, want) || x.v.Dirt() != 0 {
				t.Errorf("%d needles, Steps %d: the file has %d bytes, not %d, or others; Dirt is %d", n, l, len(x.file), len(want), x.v.Dirt())
			}
			x.has(living(77, 3, 9))
			x.put(dead(5, 3))
			x.begin()
			x.step(2)
			x.done()
			x.begin()
			x.done()
		}
	}
}

// meanwhile is needles and marks that are Put while a job goes on: of keys that were there, and of new ones.
func meanwhile() []api.Needle {
	return []api.Needle{living(50, 1, 5), dead(5, 1), dead(50, 2), living(51, 1, 0), dead(9, 9), dead(52, 1), living(0, 8, 30), dead(1, 3), living(53, 1, 1), dead(0, 1), living(math.MaxUint64, 2, 6)}
}

// TestP13_3Since is needles that are Put between Begin, each Step and Commit: all their records are copied, in order, behind what was there.
func TestP13_3Since(t *testing.T) {
	for n := range len(meanwhile()) + 1 {
		for _, step := range []int{0, 1, 3, math.MaxInt} {
			x := filled(t)
			want := renewed(x.file, len(x.file))
			x.begin()
			for _, m := range meanwhile()[:n] {
				x.has(m)
				x.step(step)
				want = append(want, laid(m)...)
			}
			x.done()
			if !bytes.Equal(x.file, want) {
				t.Errorf("%d needles meanwhile: the file has %d bytes, not %d, or others", n, len(x.file), len(want))
			}
			x.has(living(60, 1, 1))
			x.open()
		}
	}
	// What others lay there counts too, as chapter 12 reads it: up to the first place where no needle begins.
	x := filled(t)
	x.begin()
	for _, n := range []api.Needle{living(5, 7, 4), dead(6, 1), dead(6, 2), living(6, 9, 3), living(70, 1, 2), living(70, 2, 3), living(3, 3, 3)} {
		x.more(laid(n))
	}
	x.rot(len(x.file)-3, 1)
	x.v, _ = volume.Open(x.d, 7)
	x.more(laid(living(71, 1, 20))[:40])
	x.step(4)
	x.done()
}

// TestP13_3Own is each byte of the file changed between Begin and Commit: what is copied then is what stands in the file then, and what Open makes of it is answered.
func TestP13_3Own(t *testing.T) {
	for at := range filed(7, append(some(), meanwhile()[:3]...)...) {
		for _, n := range []int{0, 3} {
			x := filled(t)
			x.begin()
			x.step(n)
			for _, n := range meanwhile()[:3] {
				x.has(n)
			}
			x.rot(at, 0x40)
			x.done()
		}
	}
}

// TestP13_3Full is a Commit without room, for what was there or for what came since: the shadow is Removed, the volume is as it was, and the job has ended. 1 byte more is enough.
func TestP13_3Full(t *testing.T) {
	for _, steps := range []int{0, 3, math.MaxInt} {
		for _, since := range []int{0, 1, 4} {
			b := filed(7, some()...)
			all := filed(7, append(some(), meanwhile()[:since]...)...)
			whole := len(renewed(all, len(b)))
			for more := whole; more >= 8; more-- {
				x := over(t, len(all)+more, 7, b)
				x.begin()
				for _, n := range meanwhile()[:since] {
					x.has(n)
				}
				x.step(steps)
				was := bytes.Clone(x.file)
				if e := x.commit(); (e == api.OK) != (more == whole) {
					t.Errorf("%d bytes of room of %d: error %d", more, whole, e)
				}
				if more == whole {
					continue
				}
				if !bytes.Equal(x.file, was) || x.d.Used() != len(was) {
					t.Errorf("%d bytes of room: the volume has changed", more)
				}
				x.clear()
				x.open()
				x.begin()
			}
		}
	}
}

// TestP13_3FullAgain is a Commit that fails, and another job when there is room.
func TestP13_3FullAgain(t *testing.T) {
	b := filed(7, some()...)
	x := over(t, 2*len(b), 7, b)
	lay(t, x.d, "other", make([]byte, len(b)/2), 0)
	for range 3 {
		x.begin()
		is(t, "no room", x.commit(), api.ErrFull)
	}
	x.has(living(60, 1, 1))
	is(t, "Remove", x.d.Remove("other"), api.OK)
	x.begin()
	x.done()
	x.has(living(61, 1, 1))
}

// TestP13_3Most is a volume's file of MaxVolume bytes: nothing may be Put any more, and behind Commit there is room for just what was nobody's.
func TestP13_3Most(t *testing.T) {
	b := headOf(7)
	for key := range uint64(63) {
		b = append(b, laid(living(key, 3, api.MaxNeedle))...)
	}
	for _, key := range []uint64{40, 2, 17} {
		b = append(b, laid(dead(key, 3))...)
	}
	b = append(b, laid(living(100, 4, api.MaxVolume-len(b)-28))...)
	if len(b) != api.MaxVolume {
		t.Fatalf("%d bytes", len(b))
	}
	x := over(t, 1<<24, 7, b)
	is(t, "Put", x.put(living(101, 1, 0)), api.ErrFull)
	x.begin()
	x.step(1)
	is(t, "Put meanwhile", x.put(dead(3, 1)), api.ErrFull)
	x.step(50)
	x.done()
	if size := api.MaxVolume - 3*len(laid(living(2, 3, api.MaxNeedle))); x.v.Size() != size || x.v.Dirt() != 0 {
		t.Errorf("Size is %d, not %d; Dirt is %d", x.v.Size(), size, x.v.Dirt())
	}
	for key := range uint64(3) {
		x.has(living(200+key, 3, api.MaxNeedle))
	}
	is(t, "Put behind it", x.put(living(101, 1, 0)), api.ErrFull)
	// Of this one nothing is nobody's; nor is a longer one, which others laid, refused.
	x.begin()
	x.step(5)
	x.done()
	x.more(laid(living(300, 3, 100)))
	x.open()
	x.begin()
	x.done()
}

// TestP13_4 is Clear with a shadow and without, whatever the shadow is and whatever else is there.
func TestP13_4(t *testing.T) {
	x := filled(t)
	x.clear()
	x.begin()
	x.clear()
	x.begin()
	x.step(3)
	x.has(living(60, 1, 1))
	x.clear()
	x.begin()
	x.done()
	x.clear()
	for _, b := range [][]byte{{}, {0}, headOf(7), row(100, 2)} {
		lay(t, x.d, shadowed(7), b, len(b)/2)
		x.shadow = b
		x.clear()
	}
	d := made(t, 1000)
	lay(t, d, shadowed(7), row(20, 1), 3)
	if !vacuum.Clear(d, 7) || vacuum.Clear(d, 7) || len(d.List()) != 0 {
		t.Error("a shadow without a volume")
	}
}

// TestP13_4None is Clear without a disk, of ids that are none, of other volumes' shadows: nothing is done.
func TestP13_4None(t *testing.T) {
	d := made(t, 1000)
	for _, name := range []string{".new", "v-0000001.dat.new", "v100000000.dat.new", "v00000007.dat", "v00000007.dat.ne", "v00000007.dat.new2", "v0000007.dat.new", "v00000008.dat.new.new"} {
		lay(t, d, name, row(9, 1), 4)
	}
	c := d.Copy()
	for _, id := range append(wrongIDs(), 0, 7, 8, 99999999) {
		if vacuum.Clear(d, id) || vacuum.Clear(nil, id) {
			t.Errorf("Clear of %d is true", id)
		}
	}
	alike(t, "no shadow", d, c)
	for _, id := range ids() {
		lay(t, d, shadowed(id), headOf(id), 8)
	}
	for i, id := range ids() {
		if !vacuum.Clear(d, id) || len(d.List()) != len(c.List())+len(ids())-1-i {
			t.Errorf("Clear of %d", id)
		}
	}
	alike(t, "all are cleared", d, c)
}

// TestP13_5 is the answers of a volume ahead of Commit and behind it, damaged needles and marks among them, and Dirt, which is what the records make that came behind Begin.
func TestP13_5(t *testing.T) {
	places, _ := records(filed(7, some()...), 8)
	for i := range 300 {
		draws := drawn(i)
		x := filled(t)
		for _, p := range places {
			if draws.below(3) == 0 {
				x.rot(p.At+24+draws.below(p.N-24), 0x81)
			}
		}
		x.open()
		was := x.v.Needles()
		x.begin()
		x.step(draws.below(12))
		if l := x.v.Needles(); len(l) != len(was) {
			t.Errorf("%d Needles, not %d", len(l), len(was))
		}
		dirt := 0
		for range draws.below(6) {
			n := meanwhile()[draws.below(len(meanwhile()))]
			p := placeOf(x.v, n.Key)
			if n.Dead && x.put(n) == api.OK {
				dirt += p.N
			}
			if !n.Dead {
				x.put(n)
			}
		}
		needles, before := x.v.Needles(), x.v.Places()
		x.done()
		if x.v.Dirt() != dirt {
			t.Errorf("Dirt is %d, not %d", x.v.Dirt(), dirt)
		}
		if l := x.v.Needles(); len(l) != len(needles) {
			t.Errorf("%d Needles, not %d", len(l), len(needles))
		}
		for k, p := range x.v.Places() {
			if q := before[k]; p.Key != q.Key || p.N != q.N || p.Cookie != q.Cookie || p.Dead != q.Dead {
				t.Errorf("the place %v was %v", p, q)
			}
		}
	}
}

// placeOf is what is there of a key; of one of which nothing is, no place.
func placeOf(v *volume.Vol, key uint64) api.Place {
	for _, p := range v.Places() {
		if p.Key == key {
			return p
		}
	}
	return api.Place{}
}
