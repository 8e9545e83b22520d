package fsm_test

import (
	"slices"
	"testing"

	"garner/api"
)

// frozen is a bench whose volume 1 is Frozen, of a state and of the nodes 3 and 4; its Epoch.
func frozen(t *testing.T, state int) (*bench, int) {
	t.Helper()
	x := grown(t, []int{3, 4})
	if state == api.Strips {
		x.gives([]int{2}, freeze, 1, 1, api.Open, 3, 4)
		x.gives([]int{3}, place, 1, 2, api.Strips, 3, 4)
		x.gives([]int{4}, freeze, 1, 3, api.Strips, 3, 4)
		return x, 4
	}
	x.gives([]int{2}, freeze, 1, 1, state, 3, 4)
	return x, 2
}

// TestP18_2Place is a volume of each State placed in each one that is not below, with nodes that it had and others.
func TestP18_2Place(t *testing.T) {
	for from := range 3 {
		for to := from; to < 3; to++ {
			for _, nodes := range [][]int{{3, 4}, {4, 3}, {3}, {5}, {0, 63}, {5, 6, 7, 8, 9}, {63, 3, 0, 4}, up(0, 61), up(3, 61)} {
				x, epoch := frozen(t, from)
				x.gives([]int{epoch + 1}, place, slices.Concat([]int{1, epoch, to}, nodes)...)
				x.gives(slices.Concat([]int{1, to, epoch + 1, 0}, nodes), look, 1)
				// It is not Frozen any more.
				x.errs(api.ErrEpoch, order{place, slices.Concat([]int{1, epoch + 1, to}, nodes)})
				x.gives([]int{epoch + 2}, freeze, slices.Concat([]int{1, epoch + 1, to}, nodes)...)
			}
		}
	}
}

// TestP18_2PlaceEpoch is a place of one that is not Frozen, and of other epochs: whatever else is wrong.
func TestP18_2PlaceEpoch(t *testing.T) {
	x := grown(t, []int{3, 4}, []int{3, 4})
	x.errs(api.ErrEpoch, or(place, 1, 1, 0, 3, 4), or(place, 1, 1, 1, 3), or(place, 1, 2, 0, 3), or(place, 1, 0, 0, 3), or(place, 1, 1, 0), or(place, 1, 1, -1, 3), or(place, 1, 1, 3, 64), or(place, 1, 1, 0, 3, 3))
	x.gives([]int{2}, freeze, 1, 1, 0, 3)
	for _, n := range append(strange(), 1, 3, 0, -1, 4) {
		x.errs(api.ErrEpoch, or(place, 1, n, 0, 3), or(place, 1, n, 0), or(place, 1, n, -1, 3), or(place, 1, n, 0, 3, 3))
	}
	// The other one is not Frozen by that.
	x.errs(api.ErrEpoch, or(place, 2, 1, 0, 3), or(place, 2, 2, 0, 3))
	x.gives([]int{3}, place, 1, 2, 0, 3)
	x.errs(api.ErrEpoch, or(place, 1, 2, 0, 3), or(place, 1, 3, 0, 3))
}

// TestP18_2PlaceState is states that a place may not have: none, or below the volume's.
func TestP18_2PlaceState(t *testing.T) {
	for state := range 3 {
		x, epoch := frozen(t, state)
		for _, s := range append(strange(), -1, 0, 1, 2, 3) {
			if s < state || s > 2 {
				x.errs(api.ErrArg, or(place, 1, epoch, s, 3, 4), or(place, 1, epoch, s, 5))
			}
		}
		x.gives([]int{epoch + 1}, place, 1, epoch, 2, 3)
	}
}

// TestP18_2PlaceNodes is nodes that a place may not have, of each state.
func TestP18_2PlaceNodes(t *testing.T) {
	for state := range 3 {
		x, epoch := frozen(t, state)
		for to := state; to < 3; to++ {
			head := []int{1, epoch, to}
			for _, nodes := range [][]int{nil, {-1}, {-1, -1}, {-1, -1, -1, -1, -1}, {3, 3}, {0, 0}, {63, 5, 63}, {5, 6, 7, 7}, slices.Repeat([]int{-1}, 61), slices.Repeat([]int{5}, 61), up(4, 61)} {
				x.errs(api.ErrArg, order{place, slices.Concat(head, nodes)})
			}
			for _, n := range strange() {
				for _, nodes := range [][]int{{n}, {3, n}, {n, 3}, {5, n, 6}, {-1, n}, {n, -1}, {3, -1, n}} {
					x.errs(api.ErrArg, order{place, slices.Concat(head, nodes)})
				}
			}
		}
		for to := state; to < 2; to++ {
			x.errs(api.ErrArg, or(place, 1, epoch, to, -1, 3), or(place, 1, epoch, to, 3, -1), or(place, 1, epoch, to, 3, -1, 4), order{place, slices.Concat([]int{1, epoch, to}, with(up(0, 61), 60, -1))})
		}
		x.gives([]int{epoch + 1}, place, 1, epoch, state, 3)
	}
}

// TestP18_2PlaceStrips is that of Strips -1 may stand at any place, and twice, beside a node.
func TestP18_2PlaceStrips(t *testing.T) {
	for state := range 3 {
		for _, nodes := range [][]int{{-1, 3}, {3, -1}, {-1, -1, 5}, {-1, 5, -1, 6, -1}, {0, -1, 63}, append(slices.Repeat([]int{-1}, 60), 3), with(up(0, 61), 60, -1)} {
			x, epoch := frozen(t, state)
			x.gives([]int{epoch + 1}, place, slices.Concat([]int{1, epoch, 2}, nodes)...)
			x.gives(slices.Concat([]int{1, 2, epoch + 1, 0}, nodes), look, 1)
		}
	}
	// A shard may come to another node, and to one that has another one.
	x := stripped(t, 3, -1, 0, 63)
	x.gives([]int{4}, freeze, 1, 3, 2, 3, -1, -1, 63)
	x.gives([]int{5}, place, 1, 4, 2, 63, 3, 7, -1, 0)
	x.gives([]int{1, 2, 5, 0, 63, 3, 7, -1, 0}, look, 1)
}

// TestP18_2PlaceBehind is that a freeze takes nodes away, and a place behind it may bring them again.
func TestP18_2PlaceBehind(t *testing.T) {
	x := grown(t, []int{3, 4, 5})
	x.gives([]int{2}, freeze, 1, 1, 0, 4)
	x.gives([]int{3}, freeze, 1, 2, 1, 4)
	x.gives([]int{4}, place, 1, 3, 1, 3, 4, 5)
	x.gives([]int{1, 1, 4, 0, 3, 4, 5}, look, 1)
}
