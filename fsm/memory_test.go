package fsm_test

import (
	"bytes"
	"math"
	"slices"
	"testing"

	"garner/api"
	"garner/fsm"
)

// roomy is a list with spare room behind it, in which other things stand; and all of that room.
func roomy[T any](l []T, with T) ([]T, []T) {
	whole := slices.Concat(l, slices.Repeat([]T{with}, 20))
	return whole[:len(l)], whole
}

// spoil writes into all of a list, its spare room too.
func spoil[T any](l []T, with T) {
	l = l[:cap(l)]
	for i := range l {
		l[i] = with
	}
}

// TestP18_5Command is that Nums are neither changed nor kept, and that the bytes are new.
func TestP18_5Command(t *testing.T) {
	for kind := -1; kind <= 8; kind++ {
		for _, n := range []int{0, 1, 2, 3, 4, 64, 65} {
			nums, whole := roomy(up(1, n), 0x55)
			as := slices.Clone(whole)
			b, e := fsm.Command(kind, nums)
			c, _ := fsm.Command(kind, nums)
			if !slices.Equal(whole, as) {
				t.Errorf("Kind %d: %d Nums are changed", kind, n)
			}
			want := bytes.Clone(b)
			spoil(c, 0x77)
			spoil(whole, 0x77)
			if !bytes.Equal(b, want) {
				t.Errorf("Kind %d: bytes are shared", kind)
			}
			if d, again := fsm.Command(kind, up(1, n)); !bytes.Equal(d, want) || again != e {
				t.Errorf("Kind %d: written over, %x, error %d", kind, d, again)
			}
		}
	}
}

// TestP18_5Apply is that bytes are neither changed nor kept, whether they are done or refused.
func TestP18_5Apply(t *testing.T) {
	for start := range 20 {
		x := script(t, start+600)
		for range 300 {
			o := x.draw()
			p, whole := roomy(o.bytes(), 0x55)
			as := bytes.Clone(whole)
			l, e := x.table.Apply(p)
			if !bytes.Equal(whole, as) {
				t.Errorf("Kind %d, Nums %d: the bytes are changed", o.kind, o.nums)
			}
			spoil(whole, 0x77)
			if want, wantE := x.p.apply(o.bytes()); !slices.Equal(l, want) || e != wantE {
				t.Errorf("Kind %d, Nums %d: %d, error %d, not %d, %d", o.kind, o.nums, l, e, want, wantE)
			}
			spoil(l, 0x77)
			x.agrees("written over")
		}
	}
}

// TestP18_5Told is that what is told is new memory: one answer written over, list by list, changes nothing of another one, nor of the table.
func TestP18_5Told(t *testing.T) {
	x := grown(t, []int{3, 4}, []int{0}, up(0, 64))
	x.gives([]int{2}, freeze, 1, 1, 1, 3, 4)
	x.gives([]int{3}, place, 1, 2, 2, -1, 4, 3)
	for range 3 {
		for id := 1; id <= 3; id++ {
			one, _ := x.table.Volume(id)
			two, _ := x.table.Volume(id)
			spoil(one.Nodes, 7)
			if want, _ := x.p.volume(id); !alike(two, want) {
				t.Errorf("another answer is %v, not %v", two, want)
			}
			x.agrees("written over")
		}
		one, two := x.table.Volumes(), x.table.Volumes()
		for i := range one {
			spoil(one[i].Nodes, 7)
			isVolumes(t, "the ones behind it", one[i+1:], x.p.all()[i+1:])
			isVolumes(t, "another answer", two, x.p.all())
		}
		spoil(one, api.Volume{ID: 7, Nodes: []int{7}})
		isVolumes(t, "another answer", two, x.p.all())
		x.agrees("written over")
	}
}

// TestP18_5Nums is that what Apply answers shares nothing with the table or another answer.
func TestP18_5Nums(t *testing.T) {
	x := grown(t, []int{3, 4}, up(0, 64))
	for _, o := range []order{or(grow, 5, 6), or(look, 1), or(look, 2), or(assign, 1, 9), or(assign, 2, 9), or(freeze, 1, 1, 0, 3, 4), or(place, 1, 2, 2, 3, -1), or(look, 1), or(freeze, 2, 1, 0, 63, 0), or(look, 2)} {
		before, _ := x.table.Apply(or(look, 2).bytes())
		as := slices.Clone(before)
		l, _ := x.do(o)
		spoil(l, 7)
		x.agrees("written over")
		if !slices.Equal(before, as) {
			t.Errorf("Kind %d: an answer of before is %d", o.kind, before)
		}
	}
}

// TestP18_5Stays is that answers stay what they are, whatever is called later.
func TestP18_5Stays(t *testing.T) {
	x := script(t, 5)
	var nums, numsAs [][]int
	var one, oneAs []api.Volume
	var all, allAs [][]api.Volume
	for range 500 {
		o := x.draw()
		l, _ := x.table.Apply(o.bytes())
		want, _ := x.p.does(o)
		nums, numsAs = append(nums, l), append(numsAs, want)
		id := x.id()
		v, _ := x.table.Volume(id)
		w, _ := x.p.volume(id)
		one, oneAs = append(one, v), append(oneAs, w)
		all, allAs = append(all, x.table.Volumes()), append(allAs, x.p.all())
	}
	for i := range nums {
		if !slices.Equal(nums[i], numsAs[i]) {
			t.Errorf("the answer %d became %d, not %d", i, nums[i], numsAs[i])
		}
		isVolumes(t, "all of before", all[i], allAs[i])
	}
	isVolumes(t, "those of before", one, oneAs)
}

// TestP18_5Nil is a table that is none: Apply answers ErrArg, whatever the bytes, all else nothing.
func TestP18_5Nil(t *testing.T) {
	var table *fsm.Table
	for _, b := range [][]byte{nil, {}, {0}, make([]byte, 100), or(nothing).bytes(), or(grow, 3).bytes(), or(grow).bytes(), or(look, 1).bytes(), or(assign, 1, 9).bytes(), or(freeze, 1, 1, 0, 3).bytes(), or(place, 1, 1, 0, 3).bytes(), or(7).bytes()} {
		if l, e := table.Apply(b); len(l) != 0 || e != api.ErrArg {
			t.Errorf("Apply(%x) is %d, error %d", b, l, e)
		}
	}
	if v, ok := table.Volume(1); ok || !alike(v, api.Volume{}) {
		t.Errorf("Volume is %v, %t", v, ok)
	}
	if l := table.Volumes(); len(l) != 0 {
		t.Errorf("Volumes is %v", l)
	}
	if s := table.Sum(); s != 0 {
		t.Errorf("Sum is %08x", s)
	}
}

// TestW1 is a table that New did not make: an empty one.
func TestW1(t *testing.T) {
	for start := range 10 {
		x := script(t, start+700)
		x.table = &fsm.Table{}
		x.agrees("one that New did not make")
		x.errs(api.ErrForm, or(0), or(7), or(look))
		x.errs(api.ErrNone, or(look, 1), or(look, math.MaxInt))
		for range 200 {
			x.one()
		}
	}
}

// TestW2 is tables of which none knows of the others: each New is another one.
func TestW2(t *testing.T) {
	x, y := grown(t, []int{3, 4}), fresh(t)
	x.gives([]int{1, 1, cookie(1, 1, 9), 1, 3, 4}, assign, 1, 9)
	y.errs(api.ErrNone, or(look, 1))
	y.gives([]int{1}, grow, 5)
	x.gives([]int{1, 0, 1, 0, 3, 4}, look, 1)
	y.gives([]int{1, 1, cookie(1, 1, 9), 1, 5}, assign, 1, 9)
	x.gives([]int{2}, grow, 6)
	y.agrees("another one has grown")
}

// TestW8 is a table that is copied as a value between its calls, and only the copy used from then on: also one that New did not make.
func TestW8(t *testing.T) {
	for start := range 20 {
		x := script(t, start+800)
		if start%2 == 1 {
			x.table = &fsm.Table{}
		}
		for range 200 {
			x.one()
			table := *x.table
			x.table = &table
			x.agrees("copied")
		}
	}
}
