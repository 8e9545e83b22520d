package raft_test

import (
	"bytes"
	"testing"

	"garner/api"
)

// TestP16_4 is proposals of a leader: their numbers, and what is sent to each other node.
func TestP16_4(t *testing.T) {
	x := elected(t, 1, 3, 4, en(4, "a"))
	i, l, e := x.r.Propose([]byte("x"))
	if i != 3 || e != api.OK {
		t.Errorf("%d, error %d", i, e)
	}
	want := packed(en(5, ""), en(5, "x"))
	are(t, "a proposal", l, msg(1, 0, entries, want, 5, 1, 4, 0), msg(1, 2, entries, want, 5, 1, 4, 0))
	x.p.propose([]byte("x"))
	x.agrees("a proposal")
	x.hear(msg(2, 1, took, nil, 5, 1, 3), 0)
	are(t, "the next one", x.propose([]byte("yz")), msg(1, 0, entries, packed(en(5, ""), en(5, "x"), en(5, "yz")), 5, 1, 4, 3), msg(1, 2, entries, packed(en(5, "yz")), 5, 3, 5, 3))
	x.is("the next one", [5]int{leads, 5, 1, 4, 3})
	isTaken(t, x.take(), en(4, "a"), en(5, ""), en(5, "x"))
	x.crash(0)
	x.is("a Crash", [5]int{follows, 5, -1, 4, 0})
}

// TestP16_4Sizes is proposals of no byte, of one, of as many as there may be and of one more.
func TestP16_4Sizes(t *testing.T) {
	for _, n := range []int{1, 3} {
		x := in(t, 0, n, -1, 0, -1)
		x.ticks(9, 0)
		if n > 1 {
			x.hear(msg(1, 0, votes, nil, 1, 1), 0)
		}
		for _, c := range []struct {
			size int
			want api.Errno
		}{{0, api.ErrArg}, {1, api.OK}, {65535, api.OK}, {65536, api.OK}, {65537, api.ErrArg}, {1 << 20, api.ErrArg}, {1 << 21, api.ErrArg}, {2, api.OK}} {
			last, _ := x.r.Log()
			p := row(c.size, c.size)
			x.propose(p)
			if now, _ := x.r.Log(); (now == last+1) != (c.want == api.OK) {
				t.Errorf("%d bytes: Log is %d, was %d", c.size, now, last)
			}
		}
		if i, l, e := x.r.Propose(nil); i != 0 || len(l) > 0 || e != api.ErrArg {
			t.Errorf("nothing: %d, %v, error %d", i, l, e)
		}
		if n == 1 {
			isTaken(t, x.take(), en(1, ""), en(1, string(row(1, 1))), en(1, string(row(65535, 65535))), en(1, string(row(65536, 65536))), en(1, string(row(2, 2))))
		}
	}
}

// TestP16_4Lead is proposals to nodes that do not lead: that comes ahead of what is wrong with the proposal.
func TestP16_4Lead(t *testing.T) {
	follower := told(t, 1, en(5, "a"))
	candidate := in(t, 1, 3, -1, 5, -1)
	candidate.ticks(9, 0)
	alone := fresh(t, 0, 1, 1000, 0)
	for _, x := range []*bench{follower, candidate, alone} {
		for _, p := range [][]byte{nil, {}, []byte("x"), row(65537, 1)} {
			if i, l, e := x.r.Propose(p); i != 0 || len(l) > 0 || e != api.ErrLead {
				t.Errorf("%d bytes: %d, %v, error %d", len(p), i, l, e)
			}
			x.agrees("Propose")
		}
	}
}

// TestP16_4Eight is many proposals that nobody answers: eight are sent, from the next one on.
func TestP16_4Eight(t *testing.T) {
	x := elected(t, 0, 3, 0)
	for i := range 12 {
		l := x.propose([]byte{byte('a' + i)})
		all := append([]api.Entry{en(1, "")}, x.p.log[1:]...)
		want := packed(all[:min(8, i+2)]...)
		are(t, "many", l, msg(0, 1, entries, want, 1, 0, 0, 0), msg(0, 2, entries, want, 1, 0, 0, 0))
	}
}

// TestP16_5Take is what is taken: each once, in order, when it is agreed upon.
func TestP16_5Take(t *testing.T) {
	log := []api.Entry{en(1, "a"), en(1, ""), en(2, "c"), en(4, "d"), en(4, "e")}
	x := told(t, 0, log...)
	at := 0
	for _, c := range []int{0, 1, 1, 3, 2, 5, 0, 9} {
		x.hear(msg(0, 1, entries, nil, 5, 5, 4, c), 0)
		end := max(at, min(c, 5))
		isTaken(t, x.r.Take(), log[at:end]...)
		x.p.taken, at = end, end
		isTaken(t, x.take())
	}
	// What is agreed upon by several messages is taken at once.
	x = told(t, 0, log...)
	for c := range 5 {
		x.hear(msg(0, 1, entries, nil, 5, 5, 4, c), 0)
	}
	isTaken(t, x.take(), log[:4]...)
	// Roles and terms come and go: what was taken is not taken again.
	x.ticks(9, 0)
	x.hear(msg(2, 1, votes, nil, 6, 1), 0)
	isTaken(t, x.take())
	x.hear(msg(0, 1, took, nil, 6, 1, 6), 0)
	isTaken(t, x.take(), en(4, "e"), en(6, ""))
}

// TestP16_5Cut is a log that is cut behind what was taken, and laid anew: what comes then is taken.
func TestP16_5Cut(t *testing.T) {
	x := told(t, 2, terms(1, 1, 1, 1)...)
	isTaken(t, x.take(), terms(1, 1)...)
	x.hear(msg(0, 1, entries, packed(en(5, "x")), 5, 2, 1, 3), 0)
	x.is("it is cut", [5]int{follows, 5, 0, 3, 3})
	isTaken(t, x.take(), en(5, "x"))
}

// TestP16_4Segments is proposals over many segments of the log: all are there behind a Crash.
func TestP16_4Segments(t *testing.T) {
	x := fresh(t, 0, 1, 1<<16, 0)
	x.ticks(9, 0)
	want := []api.Entry{en(1, "")}
	for i := range 40 {
		p := bytes.Repeat([]byte{byte(i)}, 90*(i%7)+1)
		x.propose(p)
		want = append(want, api.Entry{Term: 1, Data: p})
	}
	isTaken(t, x.take(), want...)
	x.crash(0)
	x.ticks(9, 0)
	isTaken(t, x.take(), append(want, en(2, ""))...)
}
