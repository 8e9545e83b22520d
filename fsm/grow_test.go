package fsm_test

import (
	"math"
	"slices"
	"testing"

	"garner/api"
)

// TestP18_2Examples is the chapter's, in order.
func TestP18_2Examples(t *testing.T) {
	x := fresh(t)
	x.gives([]int{1}, grow, 3, 4)
	x.gives([]int{1, 1, cookie(1, 1, 9), 1, 3, 4}, assign, 1, 9)
	x.gives([]int{2}, freeze, 1, 1, 0, 4)
	x.errs(api.ErrEpoch, or(assign, 1, 9))
	x.gives([]int{3}, place, 1, 2, 0, 4, 5)
	x.errs(api.ErrEpoch, or(freeze, 1, 2, 0, 4))
}

// TestP18_2Nothing is that nothing is done, with volumes and without.
func TestP18_2Nothing(t *testing.T) {
	x := fresh(t)
	x.gives(nil, nothing)
	x.gives([]int{1}, grow, 3, 4)
	x.gives(nil, nothing)
	x.gives(nil, nothing)
}

// TestP18_2Grow is volumes of all kinds of nodes, by ids from 1 on.
func TestP18_2Grow(t *testing.T) {
	x := fresh(t)
	for i, nodes := range [][]int{{0}, {63}, {3, 4}, {4, 3}, {3, 4}, {63, 0, 31, 32}, {0, 1, 2, 3, 4, 5}, up(0, 64), up(1, 63), {33, 32, 31, 30}, {62, 63}} {
		x.gives([]int{i + 1}, grow, nodes...)
		if v, ok := x.table.Volume(i + 1); !ok || !alike(v, api.Volume{ID: i + 1, State: api.Open, Epoch: 1, Nodes: nodes}) {
			t.Errorf("of %d: %v, %t", nodes, v, ok)
		}
	}
}

// TestP18_2GrowNodes is nodes that are none, or stand twice, at each place.
func TestP18_2GrowNodes(t *testing.T) {
	x := grown(t, []int{3, 4})
	x.errs(api.ErrArg, or(grow), or(grow, 3, 3), or(grow, 0, 0), or(grow, 63, 63), or(grow, 3, 4, 3), or(grow, 4, 3, 4, 5), or(grow, -1), or(grow, -1, -1), or(grow, 64), or(grow, -1, 64))
	x.errs(api.ErrArg, order{grow, slices.Repeat([]int{5}, 64)}, order{grow, with(up(0, 64), 63, 0)}, order{grow, with(up(0, 64), 31, 32)}, order{grow, up(1, 64)}, order{grow, up(-1, 64)})
	for _, n := range append(strange(), -1) {
		for _, nodes := range [][]int{{n}, {n, 3}, {3, n}, {3, n, 4}, {3, 4, n}, with(up(0, 64), 17, n)} {
			x.errs(api.ErrArg, order{grow, nodes})
		}
	}
	for i := range 64 {
		x.errs(api.ErrArg, or(grow, i, i), or(grow, i, (i+1)%64, i))
	}
	x.gives([]int{2}, grow, 63, 0)
}

// TestP18_2GrowEnd is the volume of the number 4096, and one more.
func TestP18_2GrowEnd(t *testing.T) {
	x := fresh(t)
	for id := 1; id <= 4096; id++ {
		nodes := slices.Compact([]int{id % 64, id * 7 % 63})
		l, e := x.table.Apply(order{grow, nodes}.bytes())
		x.p.grow(nodes)
		if e != api.OK || !slices.Equal(l, []int{id}) {
			t.Fatalf("volume %d: %d, error %d", id, l, e)
		}
	}
	x.agrees("4096 volumes")
	x.errs(api.ErrEnd, or(grow, 3), or(grow, 63, 0), order{grow, up(0, 64)})
	// What is wrong with the nodes is told ahead of it.
	x.errs(api.ErrArg, or(grow), or(grow, 3, 3), or(grow, -1), or(grow, 64), or(grow, math.MaxInt))
	x.errs(api.ErrNone, or(look, 4097), or(assign, 4097, 1), or(freeze, 4097, 1, 0, 1), or(place, 4097, 1, 0, 1))
	nodes := x.p.volumes[4096].nodes
	x.gives(slices.Concat([]int{4096, 0, 1, 0}, nodes), look, 4096)
	x.gives(slices.Concat([]int{4096, 1, cookie(4096, 1, 5), 1}, nodes), assign, 4096, 5)
	x.gives([]int{2}, freeze, 4096, 1, 1, nodes[0])
	x.errs(api.ErrEnd, or(grow, 3))
}
