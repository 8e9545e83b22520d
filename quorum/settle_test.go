package quorum_test

import (
	"math"
	"testing"

	"garner/api"
)

// probe crashes all nodes and opens them again: how long they wait then, and what they do, is held against the paper tick by tick, and so is how many draws were made ahead of it.
func (x *bench) probe() {
	x.t.Helper()
	for id := range x.p.nodes {
		x.does(crash(id, 0))
	}
	for id := range x.p.nodes {
		x.does(start(id))
	}
	for range 20 {
		x.does(tick(-1, 1))
	}
}

// TestP17_4 is the example: New(3), Settle(200), and one leads, the two others follow, in one term.
func TestP17_4(t *testing.T) {
	for _, n := range []int{1, 3, 5} {
		x := fresh(t, n)
		x.settle(200)
		count := [3]int{}
		_, first, _ := x.g.State(0)
		for id := range n {
			role, term, up := x.g.State(id)
			if !up || term != first || term < 1 {
				t.Errorf("State(%d) is %d, %d, %t", id, role, term, up)
			}
			count[role]++
		}
		if count != [3]int{n - 1, 0, 1} {
			t.Errorf("of %d %d follow, stand and lead", n, count)
		}
		who := x.p.leader()
		number, e := x.propose(who, []byte("x"))
		if e != api.OK {
			t.Errorf("error %d", e)
		}
		x.settle(3)
		isFlight(x, 0)
		for id := range n {
			l := x.g.Taken(id)
			if len(l) != number || string(l[number-1].Data) != "x" {
				t.Errorf("%d took %v, not %d", id, l, number)
			}
			isTaken(t, "alike in all", l, x.g.Taken(who)...)
		}
		x.probe()
	}
}

// TestP17_4Ticks is how many rounds a Settle has: none below 1, 2000 at most.
func TestP17_4Ticks(t *testing.T) {
	for _, n := range []int{1, 3, 5} {
		for _, ticks := range []int{0, -1, -2, -2000, math.MinInt, 1, 2, 13, 14, 15, 100, 1999, 2000, 2001, 2002, 4000} {
			x := fresh(t, n)
			x.does(tick(0, 14))
			x.settle(ticks)
			if n > 1 && ticks <= 0 {
				isFlight(x, n-1)
			}
			x.probe()
		}
	}
	for _, ticks := range []int{1 << 31, 1 << 32, 1<<32 + 1, math.MaxInt} {
		x := fresh(t, 3)
		x.settle(ticks)
		x.probe()
	}
}

// TestP17_4Down is a Settle with some that are down: messages to them are gone, and the others have their ticks.
func TestP17_4Down(t *testing.T) {
	for _, n := range []int{1, 3, 5} {
		for set := range 1 << n {
			x, who := settled(t, n)
			x.propose(who, []byte("x"))
			up := n
			for id := range n {
				if set>>id&1 == 1 {
					x.does(crash(id, -1))
					up--
				}
			}
			x.settle(200)
			// With less a leader of before may still think that it leads, but no other one stands.
			if x.p.leader() < 0 && 2*up > n || x.p.leader() >= 0 && x.p.leader() != who && 2*up < n {
				t.Errorf("of %d %d are up, and %d leads", n, up, x.p.leader())
			}
			isFlight(x, 0)
			x.leds()
			x.probe()
		}
	}
}

// TestP17_4Many is more messages than one round gives: what is behind 2000 stays under way till the next round.
func TestP17_4Many(t *testing.T) {
	for _, c := range []struct{ many, ticks int }{{1999, 1}, {2000, 1}, {2001, 1}, {2300, 1}, {4095, 1}, {4096, 1}, {4096, 2}, {4096, 3}, {4096, 9}} {
		// None is up but one that stands for election: each message is gone when it is given.
		x := fresh(t, 3)
		x.does(tick(0, 14), crash(0, 0), crash(1, 0), crash(2, 0))
		for x.g.Flight() < c.many {
			x.does(twice(0))
		}
		x.settle(c.ticks)
		isFlight(x, max(0, c.many-2000*c.ticks))
		for x.g.Flight() > 0 {
			x.does(lose(0))
		}
		x.does(start(0), start(1), start(2))
		x.settle(100)
		x.probe()
	}
}

// TestP17_4Answered is more messages than one round gives, each of which is answered.
func TestP17_4Answered(t *testing.T) {
	for _, n := range []int{3, 5} {
		x, who := settled(t, n)
		for i := range 20 {
			x.propose(who, []byte{byte(i)})
		}
		for x.g.Flight() < 4096 {
			x.does(twice(x.g.Flight() % 50 % x.g.Flight()))
		}
		x.settle(1)
		if x.g.Flight() < 1000 {
			t.Errorf("only %d messages are under way", x.g.Flight())
		}
		for range 9 {
			x.settle(1)
		}
		x.settle(9)
		isFlight(x, 0)
		for id := range n {
			isTaken(t, "alike in all", x.g.Taken(id), x.g.Taken(who)...)
		}
		x.probe()
	}
}
