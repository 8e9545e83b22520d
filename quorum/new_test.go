package quorum_test

import (
	"math"
	"testing"

	"garner/api"
	"garner/quorum"
)

// TestP17_1 is groups of each size: all are up, nothing was done.
func TestP17_1(t *testing.T) {
	for _, n := range []int{1, 3, 5} {
		x := fresh(t, n)
		for id := range n {
			isState(t, x.g, id, follows, 0, true)
			isTaken(t, "Taken", x.g.Taken(id))
		}
		isState(t, x.g, -1, 0, 0, false)
		isState(t, x.g, n, 0, 0, false)
		if x.g.Flight() != 0 {
			t.Errorf("%d messages are under way", x.g.Flight())
		}
	}
}

// TestP17_1Wrong is sizes that no group has.
func TestP17_1Wrong(t *testing.T) {
	for _, n := range []int{0, 2, 4, 6, 7, 9, 15, 64, 1 << 32, 1<<32 + 3, math.MaxInt, -1, -2, -3, -5, math.MinInt, math.MinInt + 3} {
		if g, e := quorum.New(n); g != nil || e != api.ErrArg {
			t.Errorf("New(%d) is a group %t, error %d", n, g != nil, e)
		}
	}
}

// TestP17_1Disk is that each node has a disk of its own with a room of 2^20 bytes, and nothing on it.
func TestP17_1Disk(t *testing.T) {
	for _, n := range []int{1, 3, 5} {
		x := fresh(t, n)
		for id := range n {
			d := x.g.DiskOf(id)
			if l := d.List(); len(l) > 0 {
				t.Errorf("the node %d has the files %q", id, l)
			}
			if e := d.Append("x", make([]byte, 1<<20+1)); e != api.ErrFull {
				t.Errorf("the node %d has more room: error %d", id, e)
			}
			if e := d.Append("x", make([]byte, 1<<20)); e != api.OK {
				t.Errorf("the node %d has less room: error %d", id, e)
			}
		}
	}
}
