package raft_test

import (
	"testing"

	"garner/api"
)

// TestP16_3Took is a leader, with two entries of its disk and one of its own, that is answered: what it sends, and what is agreed upon.
func TestP16_3Took(t *testing.T) {
	log := []api.Entry{en(2, "a"), en(4, "b")}
	all := packed(en(2, "a"), en(4, "b"), en(5, ""))
	last := packed(en(5, ""))
	for _, x := range []struct {
		name      string
		l         []api.Msg // those from 0 come to 1; the last one's answer counts
		sent      []api.Msg
		committed int
	}{
		{"all", []api.Msg{msg(0, 1, took, nil, 5, 1, 3)}, []api.Msg{msg(1, 0, entries, nil, 5, 3, 5, 3)}, 3},
		{"all, twice", []api.Msg{msg(0, 1, took, nil, 5, 1, 3), msg(0, 1, took, nil, 5, 1, 3)}, nil, 3},
		{"all, both", []api.Msg{msg(0, 1, took, nil, 5, 1, 3), msg(2, 1, took, nil, 5, 1, 3)}, nil, 3},
		// Most have the entry 2, but it is of an older term.
		{"an older term's", []api.Msg{msg(0, 1, took, nil, 5, 1, 2)}, []api.Msg{msg(1, 0, entries, last, 5, 2, 4, 0)}, 0},
		{"an older term's, both", []api.Msg{msg(0, 1, took, nil, 5, 1, 2), msg(2, 1, took, nil, 5, 1, 2)}, []api.Msg{msg(1, 2, entries, last, 5, 2, 4, 0)}, 0},
		// Next is 3 from the beginning on: what is less does not make it less.
		{"less", []api.Msg{msg(0, 1, took, nil, 5, 1, 1)}, []api.Msg{msg(1, 0, entries, last, 5, 2, 4, 0)}, 0},
		{"0, with 1", []api.Msg{msg(0, 1, took, nil, 5, 1, 0)}, []api.Msg{msg(1, 0, entries, last, 5, 2, 4, 0)}, 0},
		{"0, with 0", []api.Msg{msg(0, 1, took, nil, 5, 0, 0)}, []api.Msg{msg(1, 0, entries, all, 5, 0, 0, 0)}, 0},
		{"1, with 0", []api.Msg{msg(0, 1, took, nil, 5, 0, 1)}, []api.Msg{msg(1, 0, entries, packed(en(4, "b"), en(5, "")), 5, 1, 2, 0)}, 0},
		{"2, with 0", []api.Msg{msg(0, 1, took, nil, 5, 0, 2)}, []api.Msg{msg(1, 0, entries, last, 5, 2, 4, 0)}, 0},
		{"3, with 0", []api.Msg{msg(0, 1, took, nil, 5, 0, 3)}, []api.Msg{msg(1, 0, entries, nil, 5, 3, 5, 0)}, 0},
		{"4, with 0", []api.Msg{msg(0, 1, took, nil, 5, 0, 4)}, nil, 0},
		{"4, with 1", []api.Msg{msg(0, 1, took, nil, 5, 1, 4)}, nil, 0},
		{"2^40, with 1", []api.Msg{msg(0, 1, took, nil, 5, 1, 1<<40)}, nil, 0},
		{"2^40, with 0", []api.Msg{msg(0, 1, took, nil, 5, 0, 1<<40)}, nil, 0},
		{"an older term, with 1", []api.Msg{msg(0, 1, took, nil, 4, 1, 3)}, nil, 0},
		{"an older term, with 0", []api.Msg{msg(0, 1, took, nil, 4, 0, 0)}, nil, 0},
		{"the term 0", []api.Msg{msg(0, 1, took, nil, 0, 0, 0)}, nil, 0},
		// Match is 2: it has these, whatever it says later.
		{"0 behind 2", []api.Msg{msg(0, 1, took, nil, 5, 1, 2), msg(0, 1, took, nil, 5, 0, 0)}, []api.Msg{msg(1, 0, entries, last, 5, 2, 4, 0)}, 0},
		{"0 behind 3", []api.Msg{msg(0, 1, took, nil, 5, 1, 3), msg(0, 1, took, nil, 5, 0, 1)}, []api.Msg{msg(1, 0, entries, nil, 5, 3, 5, 3)}, 3},
		{"0 of the other one", []api.Msg{msg(0, 1, took, nil, 5, 1, 3), msg(2, 1, took, nil, 5, 0, 1)}, []api.Msg{msg(1, 2, entries, packed(en(4, "b"), en(5, "")), 5, 1, 2, 3)}, 3},
		{"less behind 3", []api.Msg{msg(0, 1, took, nil, 5, 1, 3), msg(0, 1, took, nil, 5, 1, 1)}, nil, 3},
		// Next was 1 behind the first one: what it took then brings it on.
		{"more behind 0", []api.Msg{msg(0, 1, took, nil, 5, 0, 0), msg(0, 1, took, nil, 5, 1, 1)}, []api.Msg{msg(1, 0, entries, packed(en(4, "b"), en(5, "")), 5, 1, 2, 0)}, 0},
	} {
		b := elected(t, 1, 3, 4, log...)
		var l []api.Msg
		for _, m := range x.l {
			l = b.hear(m, 0)
		}
		are(t, x.name, l, x.sent...)
		b.is(x.name, [5]int{leads, 5, 1, 3, x.committed})
		isTaken(t, b.take(), b.p.log[:x.committed]...)
	}
}

// TestP16_3TookOthers is followers and candidates that are answered: nothing happens.
func TestP16_3TookOthers(t *testing.T) {
	x := in(t, 1, 3, -1, 5, 1, en(5, "a"))
	are(t, "a follower", x.hear(msg(0, 1, took, nil, 5, 1, 1), 0))
	are(t, "a follower", x.hear(msg(0, 1, took, nil, 5, 0, 0), 0))
	x.is("a follower", [5]int{follows, 5, -1, 1, 0})
	x.ticks(9, 0)
	are(t, "a candidate", x.hear(msg(0, 1, took, nil, 6, 1, 1), 0))
	are(t, "a candidate", x.hear(msg(0, 1, took, nil, 6, 0, 0), 0))
	x.is("a candidate", [5]int{stands, 6, -1, 1, 0})
}

// TestP16_3Most is how many have to have an entry: two of three, three of five.
func TestP16_3Most(t *testing.T) {
	x := elected(t, 4, 5, 4, en(4, "a"))
	x.propose([]byte("x"))
	x.propose([]byte("y"))
	for _, c := range []struct{ from, number, committed int }{{0, 4, 0}, {0, 4, 0}, {1, 1, 0}, {1, 2, 2}, {2, 3, 3}, {3, 3, 3}, {3, 4, 4}, {1, 4, 4}, {2, 4, 4}} {
		x.hear(msg(c.from, 4, took, nil, 5, 1, c.number), 0)
		x.is("five", [5]int{leads, 5, 4, 4, c.committed})
	}
	x = elected(t, 0, 3, 4, en(4, "a"))
	x.propose([]byte("x"))
	for _, c := range []struct{ from, number, committed int }{{2, 1, 0}, {2, 2, 2}, {1, 2, 2}, {1, 3, 3}} {
		x.hear(msg(c.from, 0, took, nil, 5, 1, c.number), 0)
		x.is("three", [5]int{leads, 5, 0, 3, c.committed})
	}
}

// TestP16_3Older is an entry of an older term that all have: it is agreed upon with the leader's own, and not ahead of it.
func TestP16_3Older(t *testing.T) {
	x := elected(t, 0, 5, 4, terms(1, 2, 3, 4)...)
	for from := 1; from < 5; from++ {
		x.hear(msg(from, 0, took, nil, 5, 1, 4), 0)
		x.is("all have 4 entries", [5]int{leads, 5, 0, 5, 0})
	}
	isTaken(t, x.take())
	x.hear(msg(1, 0, took, nil, 5, 1, 5), 0)
	x.is("two have 5", [5]int{leads, 5, 0, 5, 0})
	x.hear(msg(2, 0, took, nil, 5, 1, 5), 0)
	x.is("three have 5", [5]int{leads, 5, 0, 5, 5})
	isTaken(t, x.take(), terms(1, 2, 3, 4, 5)...)
}

// TestP16_3Terms is a log whose terms fall: the greatest number that most have and that is of its own term is what counts.
func TestP16_3Terms(t *testing.T) {
	x := elected(t, 0, 3, 4, terms(5, 9, 5, 7)...)
	x.hear(msg(1, 0, took, nil, 5, 1, 4), 0)
	x.is("the entry 3 is of its term", [5]int{leads, 5, 0, 5, 3})
	x = elected(t, 0, 3, 4, terms(5, 9, 5, 7)...)
	x.hear(msg(1, 0, took, nil, 5, 1, 2), 0)
	x.is("the entry 1 is of its term", [5]int{leads, 5, 0, 5, 1})
}

// TestP16_3Eight is eight and nine entries to send: eight at most go at once, from the next one on.
func TestP16_3Eight(t *testing.T) {
	for _, n := range []int{7, 8, 9, 16, 17, 30} {
		var log []api.Entry
		for i := range n - 1 {
			log = append(log, en(1+i/3, string(row(i, i))))
		}
		x := elected(t, 0, 3, 20, log...)
		log = append(log, en(21, ""))
		l := x.hear(msg(1, 0, took, nil, 21, 0, 0), 0)
		for at := 0; at < n; at += 8 {
			end := min(at+8, n)
			ahead := 0
			if at > 0 {
				ahead = log[at-1].Term
			}
			are(t, "from there on", l, msg(0, 1, entries, packed(log[at:end]...), 21, at, ahead, 0))
			l = x.hear(msg(1, 0, took, nil, 21, 1, end), 0)
		}
		are(t, "all", l, msg(0, 1, entries, nil, 21, n, 21, n))
	}
}

// TestP16_3Again is a leader that loses its place and wins it again: what others have it does not know any more.
func TestP16_3Again(t *testing.T) {
	x := elected(t, 0, 3, 4, en(4, "a"))
	x.hear(msg(1, 0, took, nil, 5, 1, 2), 0)
	x.is("most have all", [5]int{leads, 5, 0, 2, 2})
	x.hear(msg(1, 0, votes, nil, 7, 0), 0)
	x.ticks(2, 0)
	are(t, "it leads again", x.hear(msg(2, 0, votes, nil, 8, 1), 0), msg(0, 1, entries, packed(en(8, "")), 8, 2, 5, 2), msg(0, 2, entries, packed(en(8, "")), 8, 2, 5, 2))
	are(t, "it begins with 1 again", x.hear(msg(1, 0, took, nil, 8, 0, 0), 0), msg(0, 1, entries, packed(en(4, "a"), en(5, ""), en(8, "")), 8, 0, 0, 2))
	x.is("what was agreed upon stays so", [5]int{leads, 8, 0, 3, 2})
}
