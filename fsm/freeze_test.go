package fsm_test

import (
	"math"
	"slices"
	"testing"

	"garner/api"
)

// TestP18_2Freeze is a volume frozen with all its nodes, with fewer, in another order; Frozen or not.
func TestP18_2Freeze(t *testing.T) {
	for _, nodes := range [][]int{{3, 4, 5}, {5, 4, 3}, {4, 3, 5}, {3}, {4}, {5}, {5, 3}, {3, 4}} {
		x := grown(t, []int{3, 4, 5}, []int{6})
		x.gives([]int{2}, freeze, slices.Concat([]int{1, 1, 0}, nodes)...)
		x.gives(slices.Concat([]int{1, 0, 2, 1}, nodes), look, 1)
		// Once more, while it is Frozen.
		x.gives([]int{3}, freeze, slices.Concat([]int{1, 2, 0}, nodes)...)
		x.gives([]int{4}, freeze, 1, 3, 1, nodes[0])
		x.gives([]int{1, 1, 4, 1, nodes[0]}, look, 1)
		x.gives([]int{2, 0, 1, 0, 6}, look, 2)
	}
	x := grown(t, up(0, 64))
	x.gives([]int{2}, freeze, slices.Concat([]int{1, 1, 0}, up(0, 61))...)
	x.gives([]int{3}, freeze, 1, 2, 0, 60, 0)
	x = grown(t, up(0, 64))
	x.gives([]int{2}, freeze, slices.Concat([]int{1, 1, 1}, up(3, 61))...)
}

// TestP18_2FreezeNone is ids of no volume: whatever else is wrong.
func TestP18_2FreezeNone(t *testing.T) {
	x := grown(t, []int{3, 4}, []int{5})
	for _, id := range append(strange(), 0, -1, 3) {
		for _, kind := range []int{freeze, place} {
			x.errs(api.ErrNone, or(kind, id, 1, 0, 3), or(kind, id, 7, 0, 3), or(kind, id, 1, 7), or(kind, id, 1, 0, 3, 3), or(kind, id, math.MinInt, -1, 64))
		}
	}
}

// TestP18_2FreezeEpoch is epochs that are not the volume's: whatever else is wrong.
func TestP18_2FreezeEpoch(t *testing.T) {
	x := grown(t, []int{3, 4}, []int{3, 4})
	others := append(strange(), -1)
	for epoch := 1; epoch <= 4; epoch++ {
		for _, n := range append(others, epoch-1, epoch+1, epoch-2, epoch+2, epoch+1<<32, -epoch) {
			x.errs(api.ErrEpoch, or(freeze, 1, n, 0, 3), or(place, 1, n, 0, 3), or(freeze, 1, n, -1, 3), or(freeze, 1, n, 0), or(freeze, 1, n, 0, 5), or(place, 1, n, 3, 64))
		}
		x.gives([]int{epoch + 1}, freeze, 1, epoch, 0, 3)
	}
	x.gives([]int{2}, freeze, 2, 1, 0, 4)
}

// TestP18_2FreezeState is each state of a freeze, of volumes of each State: it stays, but an Open one may be Sealed.
func TestP18_2FreezeState(t *testing.T) {
	states := append(strange(), -1, 0, 1, 2, 3)
	x := grown(t, []int{3})
	for _, s := range states {
		if s != 0 && s != 1 {
			x.errs(api.ErrArg, or(freeze, 1, 1, s, 3))
		}
	}
	x.gives([]int{2}, freeze, 1, 1, 0, 3)
	for _, s := range states {
		if s != 0 && s != 1 {
			x.errs(api.ErrArg, or(freeze, 1, 2, s, 3))
		}
	}
	x.gives([]int{3}, freeze, 1, 2, 1, 3)
	for _, s := range states {
		if s != 1 {
			x.errs(api.ErrArg, or(freeze, 1, 3, s, 3))
		}
	}
	x.gives([]int{4}, freeze, 1, 3, 1, 3)
	x.gives([]int{5}, place, 1, 4, 2, 3)
	for _, s := range states {
		if s != 2 {
			x.errs(api.ErrArg, or(freeze, 1, 5, s, 3))
		}
	}
	x.gives([]int{6}, freeze, 1, 5, 2, 3)
}

// TestP18_2FreezeNodes is nodes that a freeze may not have: none, others than the volume's, twice, -1.
func TestP18_2FreezeNodes(t *testing.T) {
	x := grown(t, []int{3, 4, 5}, []int{0, 63}, []int{0})
	for _, s := range []int{api.Open, api.Sealed} {
		x.errs(api.ErrArg, or(freeze, 1, 1, s), or(freeze, 1, 1, s, -1), or(freeze, 1, 1, s, -1, -1), or(freeze, 1, 1, s, -1, 3), or(freeze, 1, 1, s, 3, -1), or(freeze, 1, 1, s, 3, 4, -1), or(freeze, 1, 1, s, 3, 3), or(freeze, 1, 1, s, 3, 4, 3), or(freeze, 1, 1, s, 3, 4, 5, 5))
		for n := range 64 {
			if n < 3 || n > 5 {
				x.errs(api.ErrArg, or(freeze, 1, 1, s, n), or(freeze, 1, 1, s, 3, n), or(freeze, 1, 1, s, n, 4), or(freeze, 1, 1, s, 3, 4, 5, n))
			}
		}
		for _, n := range strange() {
			x.errs(api.ErrArg, or(freeze, 1, 1, s, n), or(freeze, 1, 1, s, 3, n), or(freeze, 1, 1, s, n, 4), or(freeze, 1, 1, s, 3, 4, 5, n), or(freeze, 3, 1, s, 0, n))
		}
	}
	x.gives([]int{2}, freeze, 1, 1, 0, 3, 5)
	// What was taken away is not among its nodes any more.
	x.errs(api.ErrArg, or(freeze, 1, 2, 0, 4), or(freeze, 1, 2, 0, 3, 4, 5))
	x.gives([]int{2}, freeze, 2, 1, 0, 63, 0)
}

// TestP18_2FreezeStrips is nodes of Strips: each at its own place, or -1.
func TestP18_2FreezeStrips(t *testing.T) {
	for _, nodes := range [][]int{{3, -1, 0, 63}, {3}, {-1, -1, 0}, {3, -1}, {-1, -1, -1, 63}, {3, -1, 0}, {-1, -1, 0, -1}, {3, -1, 0, 63, -1}, {-1, -1, 0, -1, -1, -1}} {
		x := stripped(t, 3, -1, 0, 63)
		x.gives([]int{4}, freeze, slices.Concat([]int{1, 3, 2}, nodes)...)
		x.gives(slices.Concat([]int{1, 2, 4, 1}, nodes), look, 1)
	}
	x := stripped(t, 3, -1, 0, 63)
	for _, nodes := range [][]int{nil, {-1}, {-1, -1, -1, -1}, {0}, {63}, {-1, 3}, {0, -1, 3, 63}, {3, 0}, {3, 0, -1, 63}, {3, -1, 63, 0}, {3, -1, 63}, {-1, 0}, {3, -1, 0, -1, 63}, {3, -1, 0, 63, 3}, {3, 3}, {5}, {3, 5}, {3, 5, 0, 63}, {3, -1, 0, 63, 5}, {3, -1, 0, 62}, {-1, -1, -1, -1, 3}, up(0, 61)} {
		x.errs(api.ErrArg, order{freeze, slices.Concat([]int{1, 3, 2}, nodes)})
	}
	for _, n := range strange() {
		for at := range 4 {
			x.errs(api.ErrArg, order{freeze, slices.Concat([]int{1, 3, 2}, with([]int{3, -1, 0, 63}, at, n))})
		}
		x.errs(api.ErrArg, or(freeze, 1, 3, 2, n), or(freeze, 1, 3, 2, 3, -1, 0, 63, n))
	}
	// A place that was left to nobody has no node any more.
	x.gives([]int{4}, freeze, 1, 3, 2, -1, -1, 0)
	x.errs(api.ErrArg, or(freeze, 1, 4, 2, 3), or(freeze, 1, 4, 2, -1, -1, 0, 63), or(freeze, 1, 4, 2, 3, -1, 0))
	x.gives([]int{5}, freeze, 1, 4, 2, -1, -1, 0)
}

// TestP18_2ChangeEnd is a volume whose Epoch is at its end, or ahead of it: that is told behind ErrEpoch, ahead of ErrArg.
func TestP18_2ChangeEnd(t *testing.T) {
	const end = 1<<31 - 1
	for _, last := range []int{end - 2, end - 1} {
		x := grown(t, []int{3, 4}, []int{5})
		x.epoch(1, last)
		x.errs(api.ErrArg, or(freeze, 1, last, 0, 5), or(freeze, 1, last, 2, 3))
		x.gives([]int{last + 1}, freeze, 1, last, 0, 3, 4)
		x.errs(api.ErrEpoch, or(place, 1, last, 0, 3))
		if last == end-2 {
			x.errs(api.ErrArg, or(place, 1, last+1, 0))
			x.gives([]int{end}, place, 1, last+1, 0, 3, 4)
			x.gives([]int{1, 1, cookie(1, 1, 9), end, 3, 4}, assign, 1, 9)
			x.errs(api.ErrEpoch, or(place, 1, end, 0, 3), or(place, 1, end, 0), or(place, 1, end, -1, 64))
		} else {
			x.errs(api.ErrEnd, or(place, 1, end, 0, 3), or(place, 1, end, 0), or(place, 1, end, -1, 64))
			x.errs(api.ErrEpoch, or(assign, 1, 9))
		}
		x.errs(api.ErrEnd, or(freeze, 1, end, 0, 3), or(freeze, 1, end, 1, 3), or(freeze, 1, end, 0), or(freeze, 1, end, 3, 3), or(freeze, 1, end, 0, 3, 3), or(freeze, 1, end, 0, 64), or(freeze, 1, end, 0, 5))
		x.errs(api.ErrEpoch, or(freeze, 1, end-1, 0, 3), or(freeze, 1, end+1, 0, 3), or(freeze, 1, end-1, 0, 64), or(place, 1, end+1, 0, 3))
		x.errs(api.ErrNone, or(freeze, 3, end, 0, 3), or(place, 3, end, 0, 3))
		l, _ := x.do(or(look, 1))
		if l[2] != end {
			t.Errorf("the Epoch is %d", l[2])
		}
		x.gives([]int{2}, freeze, 2, 1, 0, 5)
	}
}
