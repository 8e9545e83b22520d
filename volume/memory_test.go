package volume_test

import (
	"bytes"
	"slices"
	"testing"

	"garner/api"
	"garner/disk"
	"garner/volume"
)

// inRoom is a row with other bytes in the spare room behind its end, and all of that room.
func inRoom(b []byte) ([]byte, []byte) {
	whole := slices.Concat(b, bytes.Repeat([]byte{0xaa}, 40))
	return whole[:len(b)], whole
}

// spoil writes into all of a list, its spare room too.
func spoil(b []byte) {
	b = b[:cap(b)]
	for i := range b {
		b[i] ^= 0x5a
	}
}

// spoilPlaces writes into all of a list of places, its spare room too.
func spoilPlaces(l []api.Place) {
	l = l[:cap(l)]
	for i := range l {
		l[i] = api.Place{Key: 99, At: -1, N: 1 << 40, Cookie: 99, Dead: !l[i].Dead}
	}
}

// spoilNeedles writes into all of a list of needles, their Data and all spare room too.
func spoilNeedles(l []api.Needle) {
	for _, n := range l {
		spoil(n.Data)
	}
	l = l[:cap(l)]
	for i := range l {
		l[i] = api.Needle{Key: 98, Cookie: 98, Dead: !l[i].Dead}
	}
}

// TestP12_7Arguments asks whether the Data of a Put, and the room behind it, stays as it is, and whether what is done to it behind the Put has no say.
func TestP12_7Arguments(t *testing.T) {
	for _, size := range []int{0, 1, 3, 4, 5, 100, api.MaxNeedle, api.MaxNeedle + 1} {
		for _, isDead := range []bool{false, true} {
			x := begun(t, 1<<20, 7)
			n := api.Needle{Key: 1, Cookie: 5, Dead: isDead, Data: row(size, 3)}
			b, whole := inRoom(n.Data)
			before := bytes.Clone(whole)
			n.Data = b
			for range 3 {
				want := x.w.put(api.Needle{Key: 1, Cookie: 5, Dead: isDead, Data: row(size, 3)}, 1<<20)
				is(t, "Put", x.v.Put(n), want)
				if !bytes.Equal(whole, before) || !bytes.Equal(n.Data, b) {
					t.Fatalf("Put of %d bytes changed them", size)
				}
			}
			spoil(whole)
			x.agrees("Data that was changed behind the Put")
			x.has(living(2, 5, 7))
			x.anew()
		}
	}
}

// TestP12_7Disk is a disk whose other files and whose room stay as they are.
func TestP12_7Disk(t *testing.T) {
	d := made(t, 1<<20)
	lay(t, d, "other", row(50, 1), 20)
	lay(t, d, "v00000008.dat", filed(8, some()...), 8)
	c := d.Copy()
	x := created(t, d, 1<<20, 7)
	for _, n := range some() {
		x.has(n)
	}
	x.more([]byte{1, 2, 3})
	x.anew()
	is(t, "Remove", d.Remove(named(7)), api.OK)
	alike(t, "the other files", d, c)
}

// answers are volumes whose answers are asked for: one that Put them, one that read them, one of which some are damaged.
func answers(t *testing.T) []*pair {
	t.Helper()
	put, read, wrong := filled(t), filled(t), filled(t)
	read.anew()
	for _, p := range wrong.v.Places()[:3] {
		wrong.rot(p.At+p.N-1, 2)
	}
	return []*pair{put, read, wrong}
}

// TestP12_7Answers asks whether what is answered is new memory: what is written into it changes neither the volume, nor its disk, nor another answer.
func TestP12_7Answers(t *testing.T) {
	for _, x := range answers(t) {
		for _, n := range some() {
			first, e := x.v.Get(n.Key, n.Cookie)
			before := bytes.Clone(first)
			second, _ := x.v.Get(n.Key, n.Cookie)
			spoil(second)
			if third, again := x.v.Get(n.Key, n.Cookie); !bytes.Equal(first, before) || !bytes.Equal(third, before) || again != e {
				t.Errorf("Get of %s shares memory", show(n))
			}
			spoil(first)
			x.agrees("an answer of Get was changed")
		}
		places, needles := x.v.Places(), x.v.Needles()
		spoilPlaces(x.v.Places())
		spoilNeedles(x.v.Needles())
		if !slices.Equal(places, x.w.places()) || !slices.EqualFunc(needles, x.w.needles(), same) {
			t.Error("two answers share memory")
		}
		x.agrees("other answers were changed")
		spoilPlaces(places)
		spoilNeedles(needles)
		x.agrees("the answers were changed")
	}
}

// TestP12_7Needles asks whether no two needles of one answer share memory, not even behind their Data.
func TestP12_7Needles(t *testing.T) {
	for _, x := range answers(t) {
		want := x.w.needles()
		for i := range want {
			l := x.v.Needles()
			spoil(l[i].Data)
			_ = append(l[i].Data, bytes.Repeat([]byte{0x77}, 64)...)
			l[i] = want[i]
			if !slices.EqualFunc(l, want, same) {
				t.Errorf("the needle %s shares memory with another one", show(want[i]))
			}
		}
	}
}

// TestP12_7Stays asks whether an answer stays what it is, whatever comes behind it.
func TestP12_7Stays(t *testing.T) {
	x := filled(t)
	places, needles := x.v.Places(), x.v.Needles()
	wantPlaces, wantNeedles := x.w.places(), x.w.needles()
	got, _ := x.v.Get(1, 3)
	want, _ := x.w.get(1, 3)
	for at := range x.w.b[8:] {
		x.rot(8+at, 0xff)
	}
	for key := range uint64(12) {
		x.v.Put(living(key, 1, 3))
		x.v.Put(dead(key, 1))
	}
	is(t, "Remove", x.d.Remove(named(7)), api.OK)
	if !slices.Equal(places, wantPlaces) || !slices.EqualFunc(needles, wantNeedles, same) || !bytes.Equal(got, want) {
		t.Error("an answer hangs on what came behind it")
	}
}

// TestW2 is two volumes to which the same is done: they tell the same, whatever is done to another one between.
func TestW2(t *testing.T) {
	for start := range 30 {
		script := drawn(start)
		one, two, other := made(t, 4000), made(t, 4000), made(t, 4000)
		vols := map[*disk.Disk]*volume.Vol{}
		for _, d := range []*disk.Disk{one, two, other} {
			vols[d], _ = volume.Create(d, 7)
		}
		for range 80 {
			n := living(uint64(script.below(30)), 1, script.below(90))
			if script.below(4) == 0 {
				n = dead(n.Key, 2)
			}
			is(t, "Put", vols[two].Put(n), vols[one].Put(n))
			vols[other].Put(living(n.Key+1, 7, 3))
			if !slices.Equal(vols[one].Places(), vols[two].Places()) || !slices.EqualFunc(vols[one].Needles(), vols[two].Needles(), same) || vols[one].Dirt() != vols[two].Dirt() {
				t.Fatalf("start %d: %v, %v", start, vols[one].Places(), vols[two].Places())
			}
		}
		alike(t, "twins", one, two)
	}
}
