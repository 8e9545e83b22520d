package quorum_test

import (
	"testing"

	"garner/api"
)

// fill proposes n entries of a size at a leader, and lets them come to all.
func (x *bench) fill(who, n, size int) {
	x.t.Helper()
	for i := range n {
		if _, e := x.propose(who, row(size, i)); e != api.OK {
			x.t.Fatalf("the entry %d of %d bytes: error %d", i, size, e)
		}
		x.settle(1)
	}
}

// TestP17_3Full is a group of one whose disk is full, by hand: 16 entries of 65536 bytes do not fit into 2^20.
func TestP17_3Full(t *testing.T) {
	x, _ := settled(t, 1)
	isTaken(t, "its election", x.g.Taken(0), en(1, ""))
	x.fill(0, 15, 65536)
	all := x.g.Taken(0)
	x.refuses(0, row(65536, 1), api.ErrFull)
	// It has stopped, but is up: nobody crashed it.
	for range 2 {
		isState(t, x.g, 0, 0, 0, true)
		isTaken(t, "it has stopped", x.g.Taken(0), all...)
		x.refuses(0, []byte("x"), api.ErrFull)
		x.refuses(0, nil, api.ErrFull)
		x.refuses(1, []byte("x"), api.ErrArg)
		x.does(start(0), tick(0, 50), tick(-1, 50))
		x.settle(50)
	}
	x.does(crash(0, 0))
	isState(t, x.g, 0, 0, 0, false)
	isTaken(t, "it crashed", x.g.Taken(0), all...)
	x.refuses(0, []byte("x"), api.ErrNone)
	x.does(start(0))
	isState(t, x.g, 0, follows, 1, true)
	isTaken(t, "opened again", x.g.Taken(0))
	x.settle(30)
	isState(t, x.g, 0, leads, 2, true)
	isTaken(t, "what it had, and its election", x.g.Taken(0), append(all, en(2, ""))...)
	x.refuses(0, row(65536, 1), api.ErrFull)
	isState(t, x.g, 0, 0, 0, true)
	x.leds()
}

// TestP17_3FullAll is groups whose disks are full: a leader stops, another one leads while there is room, and so on; they crash and start.
func TestP17_3FullAll(t *testing.T) {
	for _, c := range []struct{ n, many, size int }{{3, 15, 65536}, {5, 15, 65536}, {3, 245, 1024}} {
		x, who := settled(t, c.n)
		x.fill(who, c.many, c.size)
		stopped := 0
		for i := range 20 {
			who = x.p.leader()
			if who < 0 {
				break
			}
			if _, e := x.propose(who, row(c.size, i)); e == api.ErrFull {
				stopped++
				isState(t, x.g, who, 0, 0, true)
			}
			x.settle(30)
			x.leds()
		}
		if stopped == 0 {
			t.Errorf("of %d none stopped", c.n)
		}
		for i := range c.n {
			x.does(crash(i, -1), tick(-1, 20), start(i))
			x.settle(30)
		}
		x.does(tick(-1, 100))
		x.settle(60)
		if who := x.p.leader(); who >= 0 {
			x.propose(who, []byte("x"))
			x.settle(20)
		}
		x.leds()
		x.probe()
	}
}

// TestP17_3FullFollower is nodes that stop while others go on: what they took stays, messages to them change nothing, and a proposal there is ErrFull.
func TestP17_3FullFollower(t *testing.T) {
	x := fresh(t, 5)
	x.leaves(200, -10)
	x.settle(200)
	who := x.p.leader()
	if who != 0 {
		t.Fatalf("%d leads", who)
	}
	// Each next node has room for ten bytes less: the others are full ahead of the leader.
	for i := range 40 {
		if x.p.leader() != who {
			break
		}
		x.propose(who, row(i%3+1, i))
		x.settle(3)
	}
	stopped := 0
	for id := range 5 {
		if !x.p.nodes[id].stopped {
			continue
		}
		stopped++
		isState(t, x.g, id, 0, 0, true)
		x.does(start(id), tick(id, 30))
		isState(t, x.g, id, 0, 0, true)
		x.refuses(id, []byte("x"), api.ErrFull)
		few := x.g.Taken(id)
		if len(few) < 3 {
			t.Errorf("%d took only %d entries", id, len(few))
		}
		x.settle(3)
		x.does(crash(id, 0))
		isTaken(t, "while it is down", x.g.Taken(id), few...)
		x.does(start(id))
		isState(t, x.g, id, follows, x.p.nodes[id].term, true)
		isTaken(t, "opened again", x.g.Taken(id))
		x.settle(50)
	}
	if stopped < 2 {
		t.Errorf("%d stopped", stopped)
	}
	x.leds()
}
