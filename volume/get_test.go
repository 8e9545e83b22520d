package volume_test

import (
	"bytes"
	"slices"
	"testing"

	"garner/api"
	"garner/disk"
	"garner/volume"
)

// filled is a volume of the needles of some, Put.
func filled(t *testing.T) *pair {
	t.Helper()
	x := begun(t, 1<<20, 7)
	for _, n := range some() {
		x.has(n)
	}
	return x
}

// TestP12_3 is Get of each key and cookie, of no byte and of many, in any order and again.
func TestP12_3(t *testing.T) {
	x := begun(t, 1<<20, 7)
	for i, n := range []int{0, 1, 4, 5, 100, api.MaxNeedle, api.MaxNeedle - 1} {
		x.has(living(uint64(10*i), uint32(i), n))
	}
	x.has(dead(40, 9))
	x.has(dead(41, 9))
	for range 2 {
		for k, n := range map[int]int{0: 0, 1: 1, 2: 4, 3: 5, 5: api.MaxNeedle, 6: api.MaxNeedle - 1} {
			key, cookie := uint64(10*k), uint32(k)
			isGot(t, "there", x.v, key, cookie, living(key, cookie, n).Data, api.OK)
			for _, other := range []uint32{cookie + 1, cookie - 1, cookie ^ 1<<31, ^cookie} {
				isGot(t, "a wrong cookie", x.v, key, other, nil, api.ErrCook)
			}
			for _, other := range []uint64{key + 2, key + 1<<32, key | 1<<63, ^key} {
				isGot(t, "nothing there", x.v, other, cookie, nil, api.ErrNone)
			}
		}
		for _, cookie := range []uint32{0, 4, 9, 1<<32 - 1} {
			isGot(t, "a mark of what was there", x.v, 40, cookie, nil, api.ErrDead)
			isGot(t, "a mark of nothing", x.v, 41, cookie, nil, api.ErrDead)
		}
		x.anew()
	}
}

// TestP12_3Rot is each byte of the file changed behind the volume's back, and changed again: Get and Needles ask the disk, all else stays.
func TestP12_3Rot(t *testing.T) {
	x := filled(t)
	places := x.v.Places()
	for at := range x.w.b {
		for _, by := range []byte{1, 0x20, 0xff} {
			x.rot(at, by)
			isVolume(t, "a byte rotted", x.v, x.w)
			for _, n := range some() {
				p, _ := x.w.there(n.Key)
				want, wantE := n.Data, api.OK
				switch inside := p.At <= at && at < p.At+p.N; {
				case p.Dead:
					want, wantE = nil, api.ErrDead
				case inside:
					want, wantE = nil, api.ErrSum
				}
				isGot(t, "a byte rotted", x.v, n.Key, n.Cookie, want, wantE)
				if inside := p.At <= at && at < p.At+p.N; inside == slices.ContainsFunc(x.v.Needles(), func(n api.Needle) bool { return n.Key == p.Key }) {
					t.Errorf("the byte %d of %v rotted: Needles are %s", at, p, showAll(x.v.Needles()))
				}
			}
			if l := x.v.Places(); !slices.Equal(l, places) {
				t.Errorf("the byte %d rotted: Places are %v", at, l)
			}
			x.rot(at, by)
		}
	}
	x.agrees("changed again")
}

// TestP12_3Cook is which error is named first, where the needle is damaged too.
func TestP12_3Cook(t *testing.T) {
	x := filled(t)
	for at := 8; at < len(x.w.b); at += 8 {
		x.rot(at, 0x10)
	}
	for _, n := range some() {
		wantE, wantCook := api.ErrSum, api.ErrCook
		if p, _ := x.w.there(n.Key); p.Dead {
			wantE, wantCook = api.ErrDead, api.ErrDead
		}
		isGot(t, "all is damaged", x.v, n.Key, n.Cookie, nil, wantE)
		isGot(t, "all is damaged, a wrong cookie", x.v, n.Key, n.Cookie+1, nil, wantCook)
	}
	if l := x.v.Needles(); len(l) != 0 {
		t.Errorf("Needles are %s", showAll(l))
	}
}

// TestP12_3Cut is a file that is Cut anywhere behind the volume's back, and Removed: what is not there whole is damaged.
func TestP12_3Cut(t *testing.T) {
	for n := range filled(t).w.b {
		x := filled(t)
		places := x.v.Places()
		x.cut(n)
		isVolume(t, "Cut", x.v, x.w)
		for _, p := range places {
			if p.Dead {
				continue
			}
			if b, e := x.v.Get(p.Key, p.Cookie); (e == api.OK) != (p.At+p.N <= n) || e != api.OK && (e != api.ErrSum || len(b) != 0) {
				t.Errorf("Cut at %d: Get of %v is %x, error %d", n, p, b, e)
			}
		}
		if !slices.Equal(x.v.Places(), places) || x.v.Size() != n {
			t.Errorf("Cut at %d: Size is %d, Places are %v", n, x.v.Size(), x.v.Places())
		}
	}
	x := filled(t)
	is(t, "Remove", x.d.Remove(named(7)), api.OK)
	x.w.b = nil
	isVolume(t, "Removed", x.v, x.w)
	if size, dirt, l := x.v.Size(), x.v.Dirt(), x.v.Needles(); size != 0 || dirt != 0 || len(l) != 0 {
		t.Errorf("Removed: Size is %d, Dirt is %d, Needles are %s", size, dirt, showAll(l))
	}
}

// TestP12_3Another is a file in the place of the volume's: a right needle that stands where another one stood is not that one.
func TestP12_3Another(t *testing.T) {
	n := living(1, 5, 10)
	for name, other := range map[string]api.Needle{
		"another key":    {Key: 2, Cookie: 5, Data: n.Data},
		"another cookie": {Key: 1, Cookie: 6, Data: n.Data},
		"Dead":           {Key: 1, Cookie: 5, Dead: true},
		"less Data":      {Key: 1, Cookie: 5, Data: n.Data[:4]},
		"more Data":      {Key: 1, Cookie: 5, Data: row(13, 9)},
	} {
		x := begun(t, 1<<20, 7)
		x.has(n)
		x.has(living(3, 3, 3))
		x.w.b = filed(7, other, other, other)
		lay(t, x.d, named(7), x.w.b, 8)
		isGot(t, name, x.v, 1, 5, nil, api.ErrSum)
		isVolume(t, name, x.v, x.w)
	}
	x := begun(t, 1<<20, 7)
	x.has(dead(1, 5))
	x.has(dead(2, 5))
	lay(t, x.d, named(7), filed(7, living(1, 5, 4), dead(2, 5)), 8)
	isGot(t, "a mark", x.v, 1, 5, nil, api.ErrDead)
	if l := x.v.Needles(); len(l) != 1 || !same(l[0], dead(2, 5)) {
		t.Errorf("Needles are %s", showAll(l))
	}
}

// TestP12_4 is Places, Needles, Size and Dirt, worked out by hand.
func TestP12_4(t *testing.T) {
	x := begun(t, 1<<20, 7)
	all := func(size, dirt int, want ...api.Place) {
		t.Helper()
		x.agrees("by hand")
		if l := x.v.Places(); !slices.Equal(l, want) {
			t.Errorf("Places are %v, not %v", l, want)
		}
		if x.v.Size() != size || x.v.Dirt() != dirt {
			t.Errorf("Size is %d, Dirt is %d, not %d, %d", x.v.Size(), x.v.Dirt(), size, dirt)
		}
	}
	all(8, 0)
	x.has(living(9, 1, 5))
	all(48, 0, api.Place{Key: 9, At: 8, N: 40, Cookie: 1})
	x.has(living(1<<63, 2, 0))
	x.has(dead(4, 3))
	nine, high, four := api.Place{Key: 9, At: 8, N: 40, Cookie: 1}, api.Place{Key: 1 << 63, At: 48, N: 32, Cookie: 2}, api.Place{Key: 4, At: 80, N: 32, Cookie: 3, Dead: true}
	all(112, 0, four, nine, high)
	x.has(dead(9, 77))
	nine = api.Place{Key: 9, At: 112, N: 32, Cookie: 77, Dead: true}
	all(144, 40, four, nine, high)
	x.more(laid(living(4, 3, 100)))
	x.more(laid(dead(9, 77)))
	x.more(laid(living(1<<63, 2, 13)))
	x.anew()
	all(144+128+32+48, 40+128+32+48, four, nine, high)
	if l, want := x.v.Needles(), []api.Needle{dead(4, 3), dead(9, 77), living(1<<63, 2, 0)}; !slices.EqualFunc(l, want, same) {
		t.Errorf("Needles are %s, not %s", showAll(l), showAll(want))
	}
}

// TestP12_4Many is keys in an order that no map keeps: they rise, in each answer.
func TestP12_4Many(t *testing.T) {
	d := made(t, 1<<22)
	v, _ := volume.Create(d, 7)
	b := headOf(7)
	draws := drawn(5)
	for i := range 1000 {
		key := uint64(draws.below(1<<30))<<34 ^ uint64(i)
		n := living(key, uint32(i), i%20)
		is(t, "Put", v.Put(n), api.OK)
		b = append(b, laid(n)...)
	}
	w, _ := opened(7, b, len(b))
	for range 3 {
		if l := v.Places(); !slices.Equal(l, w.places()) {
			t.Error("Places are others")
		}
		if l := v.Needles(); !slices.EqualFunc(l, w.needles(), same) {
			t.Error("Needles are others")
		}
		v, _ = volume.Open(d, 7)
	}
}

// TestP12_4Damaged is Needles of a volume of which some are damaged, marks too: they are left out, and come again with the byte.
func TestP12_4Damaged(t *testing.T) {
	x := filled(t)
	places := x.v.Places()
	for i := range 1 << len(places) {
		var want []uint64
		for k, p := range places {
			if i>>k&1 == 0 {
				want = append(want, p.Key)
				continue
			}
			x.rot(p.At+(i*7+k)%p.N, 4)
		}
		var keys []uint64
		for _, n := range x.v.Needles() {
			keys = append(keys, n.Key)
		}
		if !slices.Equal(keys, want) || !slices.Equal(x.v.Places(), places) {
			t.Errorf("Needles of the keys %d, not %d", keys, want)
		}
		for k, p := range places {
			if i>>k&1 == 1 {
				x.rot(p.At+(i*7+k)%p.N, 4)
			}
		}
	}
	x.agrees("all changed again")
}

// TestP12_6Drawn is bytes that rot anywhere and in any number, with Opens, Puts and Crashes between: no Get answers other Data than what was Put of its key.
func TestP12_6Drawn(t *testing.T) {
	for start := range 150 {
		draws := drawn(start + 500)
		d := made(t, 1<<20)
		v, _ := volume.Create(d, 7)
		was := map[api.Place][][]byte{} // by key and cookie: all that was ever Put with OK
		for step := range 120 {
			n := living(uint64(draws.below(9)), uint32(draws.below(2)), draws.below(50))
			n.Data = append(n.Data, byte(step))
			switch draws.below(8) {
			case 0, 1, 2:
				if size, _ := d.Size(named(7)); size > 8 {
					is(t, "Rot", d.Rot(named(7), 8+draws.below(size-8), byte(1+draws.below(255))), api.OK)
				}
			case 3:
				v = again(t, v, d, 7)
			case 4:
				d.Crash(draws.below(1000))
			case 5:
				v.Put(dead(n.Key, n.Cookie))
			default:
				if v.Put(n) == api.OK {
					p := api.Place{Key: n.Key, Cookie: n.Cookie}
					was[p] = append(was[p], n.Data)
				}
			}
			answersOnly(t, v, was)
		}
		if t.Failed() {
			t.Fatalf("start %d", start)
		}
	}
}

// again is another Open.
func again(t *testing.T, v *volume.Vol, d *disk.Disk, id int) *volume.Vol {
	t.Helper()
	w, e := volume.Open(d, id)
	is(t, "Open", e, api.OK)
	if e != api.OK {
		return v
	}
	return w
}

// answersOnly asks each Get and Needles for nothing but what was Put.
func answersOnly(t *testing.T, v *volume.Vol, was map[api.Place][][]byte) {
	t.Helper()
	isOne := func(key uint64, cookie uint32, b []byte) bool {
		return slices.ContainsFunc(was[api.Place{Key: key, Cookie: cookie}], func(p []byte) bool { return bytes.Equal(p, b) })
	}
	for key := range uint64(10) {
		for cookie := range uint32(3) {
			if b, e := v.Get(key, cookie); e == api.OK && !isOne(key, cookie, b) {
				t.Errorf("Get(%d, %d) is %x, which was not Put", key, cookie, b)
			}
		}
	}
	for _, n := range v.Needles() {
		if !n.Dead && !isOne(n.Key, n.Cookie, n.Data) {
			t.Errorf("Needles has %s, which was not Put", show(n))
		}
	}
}

// TestP12_6Two is two digits of a needle that rot, anywhere: Get is ErrSum.
func TestP12_6Two(t *testing.T) {
	x := begun(t, 1000, 7)
	n := living(1, 5, 6)
	x.has(n)
	x.has(living(2, 5, 1))
	size := 8 * sizeOf(6)
	for i := range size {
		for k := range i {
			for _, digit := range []int{i, k} {
				is(t, "Rot", x.d.Rot(named(7), 8+digit/8, 1<<(digit%8)), api.OK)
			}
			isGot(t, "two digits", x.v, 1, 5, nil, api.ErrSum)
			for _, digit := range []int{i, k} {
				is(t, "Rot", x.d.Rot(named(7), 8+digit/8, 1<<(digit%8)), api.OK)
			}
		}
	}
	x.agrees("all changed again")
}
