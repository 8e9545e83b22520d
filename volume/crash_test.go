package volume_test

import (
	"math"
	"slices"
	"testing"

	"garner/api"
	"garner/volume"
)

// draws are numbers that Crash is given: around 0, small, at both ends of their type.
func draws() []int {
	l := []int{math.MinInt, -7, -1, 999, 1<<31 - 1, 1 << 31, 1 << 62, math.MaxInt - 1, math.MaxInt}
	for i := range 40 {
		l = append(l, i)
	}
	return l
}

// TestP12_5 is volumes with a Crash of any draw behind each number of Puts: all that was Put is there, and nothing else.
func TestP12_5(t *testing.T) {
	for n := range len(some()) + 1 {
		for _, draw := range draws() {
			d := made(t, 1<<20)
			lay(t, d, "a", row(30, 1), 10)
			v, e := volume.Create(d, 7)
			is(t, "Create", e, api.OK)
			for _, n := range some()[:n] {
				is(t, "Put", v.Put(n), api.OK)
			}
			want, _ := opened(7, filed(7, some()[:n]...), 0)
			d.Crash(draw)
			isVolume(t, "crashed", v, want)
			v, e = volume.Open(d, 7)
			is(t, "Open", e, api.OK)
			isVolume(t, "crashed, opened", v, want)
			is(t, "Put behind it", v.Put(living(100, 1, 2)), api.OK)
			d.Crash(draw + 1)
			want.put(living(100, 1, 2), 1000)
			v, e = volume.Open(d, 7)
			is(t, "another Open", e, api.OK)
			isVolume(t, "crashed again", v, want)
		}
	}
}

// TestP12_5Torn is a needle that was laid and does not last, as one that was not Put with OK: a Crash leaves some of it, which Open takes away, or all.
func TestP12_5Torn(t *testing.T) {
	next := living(50, 3, 20)
	for draw := range sizeOf(20) + 1 {
		x := filled(t)
		x.more(laid(next))
		x.d.Crash(draw)
		v, e := volume.Open(x.d, 7)
		is(t, "Open", e, api.OK)
		l := some()
		if draw == sizeOf(20) {
			l = append(l, next)
		}
		want, _ := opened(7, filed(7, l...), 0)
		isVolume(t, "crashed", v, want)
		if b, _ := x.d.Read(named(7)); len(b) != len(want.b) {
			t.Errorf("%d bytes are left of %d", len(b), len(want.b))
		}
	}
}

// anything does something to a volume, drawn, but no Crash, and to that on paper.
func (x *pair) anything(draws *drawn) {
	x.t.Helper()
	key, cookie := uint64(draws.below(12)), uint32(draws.below(3))
	switch draws.below(12) {
	case 0:
		x.anew()
	case 1:
		x.spoil(draws)
	case 2, 3, 4:
		x.put(dead(key, cookie))
	default:
		x.put(living(key, cookie, []int{0, 1, 4, 5, 20, 100, 1000}[draws.below(7)]))
	}
}

// spoil changes the volume's file behind its back; now and then the volume is opened anew, else it goes on with what it has.
func (x *pair) spoil(draws *drawn) {
	x.t.Helper()
	size := len(x.w.b)
	if size == 8 {
		return
	}
	switch draws.below(5) {
	case 0:
		x.cut(8 + draws.below(size-8))
	case 1:
		if b := row(draws.below(50), 6); len(b) <= x.room-x.d.Used() {
			x.more(b)
		}
	case 2:
		if b := laid(living(uint64(draws.below(12)), 5, draws.below(9))); len(b) <= x.room-x.d.Used() {
			x.more(b)
		}
	default:
		x.rot(8+draws.below(size-8), byte(1+draws.below(255)))
	}
	x.agrees("spoilt")
	if draws.below(2) == 0 {
		x.anew()
	}
}

// TestP12_5Drawn is scripts of all calls, with Crashes, Opens and files that are spoilt between them, on disks of small and great room, with two volumes on each: behind each step both are as on paper.
func TestP12_5Drawn(t *testing.T) {
	for start := range 60 {
		script := drawn(start)
		room := []int{200, 1500, 6000, 1 << 20}[start%4]
		d := made(t, room)
		one, two := created(t, d, room, 7), created(t, d, room, 0)
		for step := range 100 {
			x, y := one, two
			if script.below(3) == 0 {
				x, y = two, one
			}
			if script.below(10) == 0 {
				crash(script.below(2000)-5, x, y)
			} else {
				x.anything(&script)
			}
			y.agrees("the other one")
			if t.Failed() {
				t.Fatalf("start %d, step %d", start, step)
			}
		}
	}
}

// TestP12_5Kept is scripts of all calls with Crashes and Opens between them, held against what was Put with OK alone.
func TestP12_5Kept(t *testing.T) {
	for start := range 80 {
		script := drawn(start + 1000)
		d := made(t, []int{400, 3000, 1 << 20}[start%3])
		v, e := volume.Create(d, 7)
		is(t, "Create", e, api.OK)
		kept := map[uint64]api.Needle{}
		for step := range 150 {
			n := living(uint64(script.below(10)), uint32(script.below(3)), script.below(60))
			if script.below(4) == 0 {
				n = dead(n.Key, n.Cookie)
			}
			was, ok := kept[n.Key]
			want := api.OK
			switch {
			case was.Dead:
				want = api.ErrDead
			case ok && !n.Dead:
				want = api.ErrHas
			}
			switch e := v.Put(n); {
			case want == api.OK && e == api.OK:
				kept[n.Key] = n
			case want != api.OK || e != api.ErrFull:
				is(t, "Put", e, want)
			}
			if script.below(3) == 0 {
				d.Crash(script.below(3000))
				v = again(t, v, d, 7)
			}
			holds(t, v, kept)
			if t.Failed() {
				t.Fatalf("start %d, step %d", start, step)
			}
		}
	}
}

// holds asks a volume for the needles that were Put, and for no other ones.
func holds(t *testing.T, v *volume.Vol, kept map[uint64]api.Needle) {
	t.Helper()
	var want []api.Needle
	for key := range uint64(12) {
		n, ok := kept[key]
		wantE := api.OK
		switch {
		case !ok:
			wantE = api.ErrNone
		case n.Dead:
			wantE = api.ErrDead
		}
		isGot(t, "what was Put", v, key, n.Cookie, n.Data, wantE)
		if ok {
			want = append(want, n)
		}
	}
	if l := v.Needles(); !slices.EqualFunc(l, want, same) {
		t.Errorf("Needles are %s, not %s", showAll(l), showAll(want))
	}
}

// TestW9 is a file that others Cut, Remove and lay anew between calls: none panics, and no Get answers what was not Put.
func TestW9(t *testing.T) {
	for start := range 200 {
		script := drawn(start + 3000)
		d := made(t, 1<<16)
		v, _ := volume.Create(d, 7)
		was := map[api.Place][][]byte{}
		for step := range 60 {
			n := living(uint64(script.below(9)), uint32(script.below(2)), script.below(20))
			n.Data = append(n.Data, byte(step))
			size, _ := d.Size(named(7))
			switch script.below(8) {
			case 0:
				d.Cut(named(7), script.below(size+1))
			case 1:
				d.Remove(named(7))
			case 2:
				d.Append(named(7), row(script.below(50), 1))
			case 3:
				d.Append(named(7), headOf(7))
			case 4:
				v.Put(dead(n.Key, n.Cookie))
			default:
				if v.Put(n) == api.OK {
					p := api.Place{Key: n.Key, Cookie: n.Cookie}
					was[p] = append(was[p], n.Data)
				}
			}
			answersOnly(t, v, was)
			if size, _ := d.Size(named(7)); v.Size() != size || v.Dirt() < 0 || v.Dirt() > size {
				t.Errorf("Size is %d, Dirt is %d of %d", v.Size(), v.Dirt(), size)
			}
			v.Places()
			if w, e := volume.Open(d, 7); e == api.OK && script.below(3) == 0 {
				v = w
			}
		}
		if t.Failed() {
			t.Fatalf("start %d", start)
		}
	}
}
