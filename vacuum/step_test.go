package vacuum_test

import (
	"bytes"
	"math"
	"slices"
	"testing"

	"garner/api"
)

// TestP13_2 is Steps of each number, the first one and one behind it: just as many are copied, and it is true where none is left.
func TestP13_2(t *testing.T) {
	keys := len(filled(t).v.Places())
	numbers := append(steps(), keys-2, keys-1, keys, keys+1)
	for _, n := range numbers {
		for _, m := range numbers {
			x := filled(t)
			x.begin()
			x.step(n)
			x.step(m)
			want := min(max(n, 0), keys)
			want = min(want+min(max(m, 0), keys), keys)
			if left := keys - len(there(x.shadow)); left != keys-want {
				t.Errorf("Step(%d), Step(%d): %d are left, not %d", n, m, left, keys-want)
			}
			if ok, e := x.step(0); ok != (want == keys) || e != api.OK {
				t.Errorf("Step(%d), Step(%d): %d of %d are copied: %t, error %d", n, m, want, keys, ok, e)
			}
		}
	}
}

// TestP13_2Nothing is jobs of which nothing is to be copied: it is true at once, and the shadow has the head alone.
func TestP13_2Nothing(t *testing.T) {
	x := over(t, 1<<20, 7, headOf(7))
	x.begin()
	for range 2 {
		for _, n := range steps() {
			if ok, e := x.step(n); !ok || e != api.OK {
				t.Errorf("Step(%d) is %t, error %d", n, ok, e)
			}
		}
		// What is Put behind Begin is none of what Step copies.
		x.put(living(1, 2, 3))
	}
	if !bytes.Equal(x.shadow, headOf(7)) {
		t.Errorf("the shadow is %x", x.shadow)
	}
	x.done()
}

// TestP13_2Order is a volume whose places do not rise with the keys, by hand: the shadow has the needles in the order of the file, of each key the one that is there.
func TestP13_2Order(t *testing.T) {
	x := over(t, 1<<20, 7, filed(7,
		living(9, 1, 5), dead(7, 1), living(8, 1, 1), living(1<<63, 1, 20), living(7, 1, 3), living(2, 1, 0),
		dead(8, 2), living(9, 2, 30), dead(8, 3), living(0, 1, 9), dead(7, 4), living(8, 5, 2)))
	x.begin()
	want := headOf(7)
	for _, n := range []api.Needle{living(9, 1, 5), dead(7, 1), living(1<<63, 1, 20), living(2, 1, 0), dead(8, 2), living(0, 1, 9)} {
		x.step(1)
		want = append(want, laid(n)...)
		if b, _ := x.d.Read(shadowed(7)); !bytes.Equal(b, want) {
			t.Errorf("the shadow is %d bytes, not %d, or others", len(b), len(want))
		}
	}
	if ok, e := x.step(0); !ok || e != api.OK {
		t.Errorf("all is copied: %t, error %d", ok, e)
	}
	x.done()
}

// TestP13_2Many is keys in an order that no map keeps, in Steps of many numbers.
func TestP13_2Many(t *testing.T) {
	for _, n := range []int{1, 2, 7, 150, 499, 500} {
		b := headOf(7)
		draws := drawn(5)
		var all []api.Needle
		for i := range 500 {
			all = append(all, living(uint64(draws.below(1<<30))<<34^uint64(i), uint32(i), i%20))
			b = append(b, laid(all[i])...)
			if i%3 == 2 {
				b = append(b, laid(dead(all[i/2].Key, 1))...)
			}
		}
		x := over(t, 1<<20, 7, b)
		x.begin()
		for i := n; ; i += n {
			ok, e := x.step(n)
			if e != api.OK || ok != (i >= 500) {
				t.Fatalf("%d of 500 are copied: %t, error %d", i, ok, e)
			}
			if ok {
				break
			}
		}
		x.done()
	}
}

// TestP13_2Meanwhile is needles and marks that are Put between Begin and the Steps: Step copies what was there at Begin, and nothing else.
func TestP13_2Meanwhile(t *testing.T) {
	x := filled(t)
	want := bytes.Clone(headOf(7))
	for _, p := range there(x.file) {
		want = append(want, own(x.file, p)...)
	}
	x.begin()
	x.has(living(100, 1, 9))
	x.has(dead(5, 1))
	x.has(dead(8, 1))
	for i := range x.v.Places() {
		x.step(1)
		x.has(living(uint64(200+i), 3, i))
		if i%2 == 0 {
			x.has(dead(uint64(200+i), 3))
		}
	}
	if b, _ := x.d.Read(shadowed(7)); !bytes.Equal(b, want) {
		t.Errorf("the shadow is %d bytes, not %d, or others", len(b), len(want))
	}
	x.has(dead(1, 3))
	x.done()
}

// TestP13_2Own is bytes that change between Begin and the Steps: a record's own bytes are those that stand in the file when it is copied.
func TestP13_2Own(t *testing.T) {
	for at := 8; at < len(filed(7, some()...)); at += 3 {
		for _, n := range []int{0, 1, 4, math.MaxInt} {
			x := filled(t)
			x.begin()
			x.step(n)
			x.rot(at, 0x40)
			x.step(2)
			x.rot(at, 0x41)
			x.step(math.MaxInt)
		}
	}
}

// TestP13_2Damaged is volumes of which some needles are damaged, marks too: their own bytes are copied as they stand.
func TestP13_2Damaged(t *testing.T) {
	places, _ := records(filed(7, some()...), 8)
	for i := range 1 << len(places) {
		if i%7 != 0 {
			continue
		}
		x := filled(t)
		for k, p := range places {
			if i>>k&1 == 1 {
				x.rot(p.At+24+(i+k)%(p.N-24), 4)
			}
		}
		x.open()
		x.begin()
		x.step(i % 5)
		x.step(math.MaxInt)
		if want := headOf(7); !bytes.HasPrefix(x.shadow, want) || len(there(x.shadow)) != len(there(x.file)) {
			t.Errorf("%d keys are copied, not %d", len(there(x.shadow)), len(there(x.file)))
		}
	}
}

// TestP13_2Full is a disk without room for a record: what was copied is copied, and the call may come again, as often as one likes, when there is room too.
func TestP13_2Full(t *testing.T) {
	b := filed(7, some()...)
	whole := renewed(b, len(b))
	for more := 8; more <= len(whole); more++ {
		for _, n := range []int{1, 3, math.MaxInt} {
			x := over(t, len(b)+more, 7, b)
			x.begin()
			for range 12 {
				x.step(n)
			}
			if _, e := x.step(n); (e == api.ErrFull) != (more < len(whole)) {
				t.Errorf("%d bytes of room: error %d", more, e)
			}
			if ok, e := x.step(0); ok != (more == len(whole)) || e != api.OK {
				t.Errorf("%d bytes of room: Step(0) is %t, error %d", more, ok, e)
			}
		}
	}
	for more := 8; more < len(whole); more += 5 {
		// There is room of so many bytes at first, and of all when a file is gone.
		x := over(t, len(b)+len(whole), 7, b)
		lay(t, x.d, "other", make([]byte, len(whole)-more), 1)
		x.begin()
		if _, e := x.step(math.MaxInt); e != api.ErrFull {
			t.Errorf("%d bytes of room: error %d", more, e)
		}
		was := bytes.Clone(x.shadow)
		x.step(1)
		x.step(math.MaxInt)
		if !bytes.Equal(x.shadow, was) {
			t.Errorf("%d bytes of room: %d are laid, then %d", more, len(was), len(x.shadow))
		}
		is(t, "Remove", x.d.Remove("other"), api.OK)
		if more%2 == 0 {
			x.step(1)
		}
		if ok, e := x.step(math.MaxInt); !ok || e != api.OK || !bytes.Equal(x.shadow, whole) {
			t.Errorf("room again: %t, error %d", ok, e)
		}
		x.done()
	}
}

// TestP13_2Ended is Step behind a Commit, and behind one that failed: ErrArg, and nothing is done.
func TestP13_2Ended(t *testing.T) {
	for _, n := range steps() {
		x := filled(t)
		x.begin()
		x.step(n)
		x.done()
		if ok, e := x.step(n); ok || e != api.ErrArg {
			t.Errorf("Step(%d) behind Commit is %t, error %d", n, ok, e)
		}
		b := filed(7, some()...)
		x = over(t, len(b)+50, 7, b)
		x.begin()
		x.step(n)
		is(t, "Commit without room", x.commit(), api.ErrFull)
		if ok, e := x.step(n); ok || e != api.ErrArg {
			t.Errorf("Step(%d) behind a Commit that failed is %t, error %d", n, ok, e)
		}
		if slices.Contains(x.d.List(), shadowed(7)) {
			t.Error("a shadow is left")
		}
	}
}
