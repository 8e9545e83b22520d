package fsm_test

import (
	"hash/crc32"
	"math"
	"slices"
	"testing"

	"garner/api"
	"garner/fsm"
)

// TestP18_3Sum is tables whose bytes are worked out one by one: id, State, Epoch, Frozen, how many Nodes, each one and 1, the next key.
func TestP18_3Sum(t *testing.T) {
	x := fresh(t)
	isSum := func(want uint32, b ...byte) {
		t.Helper()
		if s := crc32.ChecksumIEEE(b); s != want || x.table.Sum() != want {
			t.Errorf("Sum is %08x, and of %x %08x, not %08x", x.table.Sum(), b, s, want)
		}
	}
	isSum(0)
	x.gives([]int{1}, grow, 3, 4)
	isSum(0xc5a4a8d6, 1, 0, 1, 0, 2, 4, 5, 1)
	x.do(or(assign, 1, 9))
	isSum(0x5cadf96c, 1, 0, 1, 0, 2, 4, 5, 2)
	x.do(or(freeze, 1, 1, 0, 4))
	isSum(0x6bdc1f91, 1, 0, 2, 1, 1, 5, 2)
	x.do(or(place, 1, 2, 0, 4, 5))
	isSum(0x3b8a6193, 1, 0, 3, 0, 2, 5, 6, 2)
	x.gives([]int{2}, grow, 0, 63, 1)
	isSum(0x09bd69f1, 1, 0, 3, 0, 2, 5, 6, 2, 2, 0, 1, 0, 3, 1, 64, 2, 1)
	x = stripped(t, -1, 63, -1, 0)
	isSum(0xc2a837d1, 1, 2, 3, 0, 4, 0, 64, 0, 1, 1)
}

// TestP18_3SumGreat is numbers that have more than one byte: ids, Epochs and next keys.
func TestP18_3SumGreat(t *testing.T) {
	x := grown(t, slices.Repeat([][]int{{7}}, 200)...)
	for i := range 130 {
		x.gives([]int{200, i + 1, cookie(200, i+1, i), 1, 7}, assign, 200, i)
		x.gives([]int{i + 2}, freeze, 150, i+1, 0, 7)
	}
	for _, n := range []int{127, 128, 129, 1<<14 - 1, 1 << 14, 1<<31 - 2, 1<<31 - 1} {
		x.epoch(77, n)
	}
	for _, n := range []int{127, 128, 1<<14 - 1, 1 << 14, 1<<32 - 1, 1 << 32, 1 << 40, 1<<40 + 1} {
		x.next(77, n)
	}
}

// TestP18_3SumApart is that Sum tells tables apart that differ in one thing.
func TestP18_3SumApart(t *testing.T) {
	sums := map[uint32]int{}
	for i, l := range [][]order{
		nil,
		{or(grow, 3)},
		{or(grow, 4)},
		{or(grow, 3, 4)},
		{or(grow, 4, 3)},
		{or(grow, 3), or(grow, 4)},
		{or(grow, 4), or(grow, 3)},
		{or(grow, 3), or(assign, 1, 9)},
		{or(grow, 3), or(assign, 1, 9), or(assign, 1, 9)},
		{or(grow, 3), or(freeze, 1, 1, 0, 3)},
		{or(grow, 3), or(freeze, 1, 1, 1, 3)},
		{or(grow, 3), or(freeze, 1, 1, 0, 3), or(freeze, 1, 2, 0, 3)},
		{or(grow, 3), or(freeze, 1, 1, 0, 3), or(place, 1, 2, 0, 3)},
		{or(grow, 3), or(freeze, 1, 1, 0, 3), or(place, 1, 2, 1, 3)},
		{or(grow, 3), or(freeze, 1, 1, 0, 3), or(place, 1, 2, 2, 3)},
		{or(grow, 3), or(freeze, 1, 1, 0, 3), or(place, 1, 2, 2, 3, -1)},
		{or(grow, 3), or(freeze, 1, 1, 0, 3), or(place, 1, 2, 2, -1, 3)},
	} {
		x := fresh(t)
		for _, o := range l {
			if _, e := x.do(o); e != api.OK {
				t.Fatalf("%v: error %d", l, e)
			}
		}
		if was, ok := sums[x.table.Sum()]; ok {
			t.Errorf("%d and %d have the Sum %08x", was, i, x.table.Sum())
		}
		sums[x.table.Sum()] = i
	}
	// What changes nothing changes no Sum: a salt, a look, nothing.
	x, y := grown(t, []int{3}), grown(t, []int{3})
	for _, o := range []order{or(assign, 1, 9), or(look, 1), or(nothing)} {
		x.do(o)
	}
	y.do(or(assign, 1, 10))
	if x.table.Sum() != y.table.Sum() {
		t.Error("two tables that are the same have two Sums")
	}
}

// TestP18_3Volume is ids of volumes and of none.
func TestP18_3Volume(t *testing.T) {
	x := fresh(t)
	for _, id := range append(strange(), 0, 1, -1) {
		x.isVolume("without a volume", id)
	}
	x = grown(t, []int{3, 4}, []int{0}, up(0, 64))
	x.gives([]int{2}, freeze, 1, 1, 1, 4)
	x.gives([]int{3}, place, 1, 2, 2, -1, 4)
	x.gives([]int{2}, freeze, 3, 1, 0, 63, 0)
	for _, w := range []api.Volume{{ID: 1, State: api.Strips, Epoch: 3, Nodes: []int{-1, 4}}, {ID: 2, State: api.Open, Epoch: 1, Nodes: []int{0}}, {ID: 3, State: api.Open, Epoch: 2, Nodes: []int{63, 0}, Frozen: true}} {
		if v, ok := x.table.Volume(w.ID); !ok || !alike(v, w) {
			t.Errorf("Volume(%d) is %v, %t", w.ID, v, ok)
		}
	}
	for _, id := range append(strange(), 0, -1, 4) {
		if v, ok := x.table.Volume(id); ok || v.Nodes != nil || !alike(v, api.Volume{}) {
			t.Errorf("Volume(%d) is %v, %t", id, v, ok)
		}
	}
}

// TestP18_3Volumes is all volumes, by id.
func TestP18_3Volumes(t *testing.T) {
	x := fresh(t)
	if l := x.table.Volumes(); len(l) != 0 {
		t.Errorf("without a volume: %v", l)
	}
	x = grown(t, []int{5}, []int{4}, []int{3})
	x.gives([]int{2}, freeze, 3, 1, 1, 3)
	isVolumes(t, "three", x.table.Volumes(), []api.Volume{{ID: 1, Epoch: 1, Nodes: []int{5}}, {ID: 2, Epoch: 1, Nodes: []int{4}}, {ID: 3, State: api.Sealed, Epoch: 2, Nodes: []int{3}, Frozen: true}})
}

// TestP18_3Script is that all is told as it is, behind each drawn command.
func TestP18_3Script(t *testing.T) {
	met := map[int]int{}
	for start := range 60 {
		x := script(t, start)
		for range 400 {
			x.one()
		}
		x.add(met)
	}
	// Each Kind has met each of its errors, and was done, often enough.
	for kind, l := range map[int][]api.Errno{
		nothing: {api.OK, api.ErrForm},
		grow:    {api.OK, api.ErrArg},
		assign:  {api.OK, api.ErrForm, api.ErrNone, api.ErrShut, api.ErrEpoch},
		look:    {api.OK, api.ErrForm, api.ErrNone},
		freeze:  {api.OK, api.ErrForm, api.ErrNone, api.ErrEpoch, api.ErrArg},
		place:   {api.OK, api.ErrForm, api.ErrNone, api.ErrEpoch, api.ErrArg},
		0:       {api.ErrForm},
		7:       {api.ErrForm},
	} {
		for _, e := range l {
			if n := met[kind*100+int(e)]; n < 20 {
				t.Errorf("Kind %d met error %d %d times", kind, e, n)
			}
		}
	}
}

// TestP18_3Nil is a table that is none, and one that New did not make.
func TestP18_3Nil(t *testing.T) {
	for _, table := range []*fsm.Table{nil, {}, fsm.New()} {
		for _, id := range append(strange(), 0, 1, -1, math.MaxInt) {
			if v, ok := table.Volume(id); ok || v.Nodes != nil || !alike(v, api.Volume{}) {
				t.Errorf("Volume(%d) is %v, %t", id, v, ok)
			}
		}
		if l := table.Volumes(); len(l) != 0 {
			t.Errorf("Volumes is %v", l)
		}
		if s := table.Sum(); s != 0 {
			t.Errorf("Sum is %08x", s)
		}
	}
}
