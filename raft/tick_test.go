package raft_test

import (
	"math"
	"testing"

	"garner/api"
)

// TestP16_2Alone is one node alone: it stands, leads, and agrees with itself.
func TestP16_2Alone(t *testing.T) {
	for draw, wait := range waits() {
		x := fresh(t, 0, 1, 2000, draw)
		are(t, "an election", x.ticks(wait-1, 5))
		x.is("an election", [5]int{leads, 1, 0, 1, 1})
		isTaken(t, x.take(), en(1, ""))
		for range 30 {
			are(t, "a leader alone", x.tick(0))
		}
		are(t, "a proposal", x.propose([]byte("x")))
		x.is("a proposal", [5]int{leads, 1, 0, 2, 2})
		isTaken(t, x.take(), en(1, "x"))
		x.crash(draw)
		x.is("a Crash", [5]int{follows, 1, -1, 2, 0})
		x.ticks(wait-1, 0)
		x.is("another election", [5]int{leads, 2, 0, 3, 3})
		isTaken(t, x.take(), en(1, ""), en(1, "x"), en(2, ""))
	}
}

// TestP16_2Stands is followers and candidates whose wait is over: they ask each other node, rising, with a term that is one more and their last entry.
func TestP16_2Stands(t *testing.T) {
	x := in(t, 1, 3, -1, 6, 0, en(2, "a"), en(5, "b"))
	are(t, "a follower", x.ticks(9, 3), msg(1, 0, asks, nil, 7, 2, 5), msg(1, 2, asks, nil, 7, 2, 5))
	x.is("a follower", [5]int{stands, 7, -1, 2, 0})
	are(t, "a candidate, whose draw was 3", x.ticks(12, 9), msg(1, 0, asks, nil, 8, 2, 5), msg(1, 2, asks, nil, 8, 2, 5))
	x.is("a candidate", [5]int{stands, 8, -1, 2, 0})
	are(t, "a candidate, whose draw was 9", x.ticks(18, -1), msg(1, 0, asks, nil, 9, 2, 5), msg(1, 2, asks, nil, 9, 2, 5))
	x.crash(0)
	are(t, "its own vote lasts: another one has none", x.hear(msg(2, 1, asks, nil, 9, 2, 5), 0), msg(1, 2, votes, nil, 9, 0))

	x = in(t, 3, 5, -1, 0, -1)
	are(t, "five", x.ticks(9, 0), msg(3, 0, asks, nil, 1, 0, 0), msg(3, 1, asks, nil, 1, 0, 0), msg(3, 2, asks, nil, 1, 0, 0), msg(3, 4, asks, nil, 1, 0, 0))
	x = in(t, 0, 3, -1, 4, 2)
	x.hear(msg(2, 0, entries, nil, 4, 0, 0, 0), 0)
	x.is("a follower that knows who leads", [5]int{follows, 4, 2, 0, 0})
	are(t, "it stands", x.ticks(9, 0), msg(0, 1, asks, nil, 5, 0, 0), msg(0, 2, asks, nil, 5, 0, 0))
	x.is("it stands", [5]int{stands, 5, -1, 0, 0})
}

// TestP16_2Greatest is terms at the end of what messages may tell, and of what an int may be: none is ever less than before.
func TestP16_2Greatest(t *testing.T) {
	x := in(t, 0, 3, -1, 1<<40, -1)
	are(t, "2^40", x.ticks(9, 0), msg(0, 1, asks, nil, 1<<40+1, 0, 0), msg(0, 2, asks, nil, 1<<40+1, 0, 0))
	x.crash(0)
	x.is("a Crash", [5]int{follows, 1<<40 + 1, -1, 0, 0})

	x = in(t, 0, 3, -1, math.MaxInt, -1)
	for range 50 {
		are(t, "behind it there is none", x.r.Tick(0))
		x.is("behind it there is none", [5]int{follows, math.MaxInt, -1, 0, 0})
	}
	x = in(t, 0, 1, -1, math.MaxInt-1, -1)
	x.ticks(9, 0)
	x.is("the one ahead of it", [5]int{leads, math.MaxInt, 0, 1, 1})
	x.propose([]byte("x"))
	isTaken(t, x.take(), en(math.MaxInt, ""), en(math.MaxInt, "x"))
}

// elected is a bench of a leader of its disk's term and one more, that nobody has answered as such: who votes for it are the lowest ones.
func elected(t *testing.T, id, n, term int, l ...api.Entry) *bench {
	t.Helper()
	x := in(t, id, n, -1, term, -1, l...)
	x.ticks(9, 0)
	for from := 0; x.p.role != leads; from++ {
		x.hear(msg(from, id, votes, nil, term+1, 1), 0)
	}
	return x
}

// TestP16_2Beats is a leader: each third Tick it sends entries to each other node, rising, whatever the draws are.
func TestP16_2Beats(t *testing.T) {
	x := elected(t, 1, 3, 4, en(2, "a"), en(4, "b"))
	for _, draw := range []int{0, 9, -1, math.MaxInt, math.MinInt} {
		are(t, "a beat", x.ticks(2, draw), msg(1, 0, entries, packed(en(5, "")), 5, 2, 4, 0), msg(1, 2, entries, packed(en(5, "")), 5, 2, 4, 0))
	}
	x.hear(msg(0, 1, took, nil, 5, 1, 3), 0)
	are(t, "one that has all, and one that has not", x.ticks(2, 0), msg(1, 0, entries, nil, 5, 3, 5, 3), msg(1, 2, entries, packed(en(5, "")), 5, 2, 4, 3))
	x.is("a beat", [5]int{leads, 5, 1, 3, 3})

	x = elected(t, 4, 5, 0)
	are(t, "five", x.ticks(2, 0), msg(4, 0, entries, packed(en(1, "")), 1, 0, 0, 0), msg(4, 1, entries, packed(en(1, "")), 1, 0, 0, 0), msg(4, 2, entries, packed(en(1, "")), 1, 0, 0, 0), msg(4, 3, entries, packed(en(1, "")), 1, 0, 0, 0))
}

// TestP16_2Wait is what makes a node wait anew, and what does not.
func TestP16_2Wait(t *testing.T) {
	for _, x := range []struct {
		name string
		m    api.Msg
		anew bool
	}{
		{"entries of its leader", msg(1, 0, entries, nil, 5, 0, 0, 0), true},
		{"entries that it can't lay", msg(1, 0, entries, nil, 5, 9, 5, 0), true},
		{"entries of a later term", msg(1, 0, entries, nil, 6, 0, 0, 0), true},
		{"entries of an older term", msg(1, 0, entries, nil, 4, 0, 0, 0), false},
		{"a vote that it gives", msg(1, 0, asks, nil, 5, 2, 5), true},
		{"a vote of a later term", msg(1, 0, asks, nil, 6, 2, 5), true},
		{"a vote that it does not give", msg(1, 0, asks, nil, 5, 1, 5), false},
		{"a vote of a later term that it does not give", msg(1, 0, asks, nil, 6, 1, 5), false},
		{"a vote of an older term", msg(1, 0, asks, nil, 4, 2, 5), false},
		{"another one's vote", msg(1, 0, votes, nil, 6, 1), false},
		{"another one that took", msg(1, 0, took, nil, 6, 1, 0), false},
	} {
		for draw, wait := range waits() {
			b := in(t, 0, 3, -1, 5, -1, en(5, ""), en(5, ""))
			for range 4 {
				b.tick(0)
			}
			b.hear(x.m, draw)
			left := 6
			if x.anew {
				left = wait
			}
			if l := b.ticks(left-1, 0); len(l) != 2 {
				t.Errorf("%s, the draw %d: %d Ticks are not all", x.name, draw, left)
			}
		}
	}
}

// TestP16_2Deposed is a leader that hears of a later term: what is left of its wait of 3 is left.
func TestP16_2Deposed(t *testing.T) {
	x := elected(t, 0, 3, 0)
	x.tick(0)
	x.hear(msg(2, 0, votes, nil, 3, 0), 9)
	x.is("a later term", [5]int{follows, 3, -1, 1, 0})
	are(t, "it stands", x.ticks(1, 0), msg(0, 1, asks, nil, 4, 1, 1), msg(0, 2, asks, nil, 4, 1, 1))
}
