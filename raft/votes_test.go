package raft_test

import (
	"testing"

	"garner/api"
)

// TestP16_3Example is the second example of the chapter, worked out number by number up to where all three have taken all.
func TestP16_3Example(t *testing.T) {
	a, b, c := fresh(t, 0, 3, 5000, 0), fresh(t, 1, 3, 5000, 5), fresh(t, 2, 3, 5000, 9)
	asked := a.ticks(9, 0)
	are(t, "it asks both", asked, msg(0, 1, asks, nil, 1, 0, 0), msg(0, 2, asks, nil, 1, 0, 0))
	fromB, fromC := b.hear(asked[0], 0), c.hear(asked[1], 0)
	are(t, "the one votes", fromB, msg(1, 0, votes, nil, 1, 1))
	are(t, "the other one votes", fromC, msg(2, 0, votes, nil, 1, 1))
	b.is("it has voted", [5]int{follows, 1, -1, 0, 0})

	first := a.hear(fromB[0], 0)
	are(t, "it leads, and sends to both", first, msg(0, 1, entries, packed(en(1, "")), 1, 0, 0, 0), msg(0, 2, entries, packed(en(1, "")), 1, 0, 0, 0))
	are(t, "the last vote changes nothing", a.hear(fromC[0], 0))
	a.is("it leads", [5]int{leads, 1, 0, 1, 0})
	isTaken(t, a.take())

	l := b.hear(first[0], 0)
	are(t, "it took it", l, msg(1, 0, took, nil, 1, 1, 1))
	b.is("it took it", [5]int{follows, 1, 0, 1, 0})
	l = a.hear(l[0], 0)
	are(t, "most have it: it tells so", l, msg(0, 1, entries, nil, 1, 1, 1, 1))
	isTaken(t, a.take(), en(1, ""))
	l = b.hear(l[0], 0)
	are(t, "it is told", l, msg(1, 0, took, nil, 1, 1, 1))
	isTaken(t, b.take(), en(1, ""))
	are(t, "nothing is left to send", a.hear(l[0], 0))

	second := a.propose([]byte("xyz"))
	are(t, "a proposal", second, msg(0, 1, entries, packed(en(1, "xyz")), 1, 1, 1, 1), msg(0, 2, entries, packed(en(1, ""), en(1, "xyz")), 1, 0, 0, 1))
	l = c.hear(second[1], 0)
	are(t, "two at once", l, msg(2, 0, took, nil, 1, 1, 2))
	isTaken(t, c.take(), en(1, ""))
	l = a.hear(l[0], 0)
	are(t, "most have the second", l, msg(0, 2, entries, nil, 1, 2, 1, 2))
	c.hear(l[0], 0)
	isTaken(t, a.take(), en(1, "xyz"))
	isTaken(t, c.take(), en(1, "xyz"))
	are(t, "the first one, late", c.hear(first[1], 0), msg(2, 0, took, nil, 1, 1, 1))
	are(t, "a late answer", a.hear(msg(2, 0, took, nil, 1, 1, 1), 0))

	l = b.hear(second[0], 0)
	are(t, "the other one", l, msg(1, 0, took, nil, 1, 1, 2))
	are(t, "has all, but is not told yet", a.hear(l[0], 0))
	beat := a.ticks(2, 0)
	are(t, "a beat", beat, msg(0, 1, entries, nil, 1, 2, 1, 2), msg(0, 2, entries, nil, 1, 2, 1, 2))
	b.hear(beat[0], 0)
	isTaken(t, b.take(), en(1, "xyz"))
	for _, x := range []*bench{a, b, c} {
		isTaken(t, x.take())
	}
}

// TestP16_3Asks is who is given a vote: by its term, by the vote that was given, by its last entry's term and number.
func TestP16_3Asks(t *testing.T) {
	log := []api.Entry{en(2, "a"), en(4, "b"), en(4, "")}
	for _, x := range []struct {
		name       string
		term, vote int
		m          api.Msg
		yes        bool
		then       [2]int // term and vote
	}{
		{"no vote yet, the same last entry", 5, -1, msg(2, 1, asks, nil, 5, 3, 4), true, [2]int{5, 2}},
		{"a greater number", 5, -1, msg(2, 1, asks, nil, 5, 4, 4), true, [2]int{5, 2}},
		{"a smaller number", 5, -1, msg(2, 1, asks, nil, 5, 2, 4), false, [2]int{5, -1}},
		{"a greater term, a smaller number", 5, -1, msg(2, 1, asks, nil, 5, 1, 5), true, [2]int{5, 2}},
		{"a greater term than its own even", 5, -1, msg(2, 1, asks, nil, 5, 1, 6), true, [2]int{5, 2}},
		{"a smaller term, a greater number", 5, -1, msg(2, 1, asks, nil, 5, 9, 3), false, [2]int{5, -1}},
		{"a smaller term, the same number", 5, -1, msg(2, 1, asks, nil, 5, 3, 3), false, [2]int{5, -1}},
		{"no entry at all", 5, -1, msg(2, 1, asks, nil, 5, 0, 0), false, [2]int{5, -1}},
		{"the same one again", 5, 2, msg(2, 1, asks, nil, 5, 3, 4), true, [2]int{5, 2}},
		{"the same one again, with less", 5, 2, msg(2, 1, asks, nil, 5, 2, 4), false, [2]int{5, 2}},
		{"another one had it", 5, 0, msg(2, 1, asks, nil, 5, 3, 4), false, [2]int{5, 0}},
		{"another one had it, with more", 5, 0, msg(2, 1, asks, nil, 5, 1<<40, 1<<40), false, [2]int{5, 0}},
		{"itself had it", 5, 1, msg(2, 1, asks, nil, 5, 3, 4), false, [2]int{5, 1}},
		{"the node 0", 5, -1, msg(0, 1, asks, nil, 5, 3, 4), true, [2]int{5, 0}},
		{"the node 0 again", 5, 0, msg(0, 1, asks, nil, 5, 3, 4), true, [2]int{5, 0}},
		{"an older term", 5, -1, msg(2, 1, asks, nil, 4, 3, 4), false, [2]int{5, -1}},
		{"an older term of the one it voted for", 5, 2, msg(2, 1, asks, nil, 4, 3, 4), false, [2]int{5, 2}},
		{"the term 0", 5, -1, msg(2, 1, asks, nil, 0, 3, 4), false, [2]int{5, -1}},
		{"a later term", 5, 0, msg(2, 1, asks, nil, 6, 3, 4), true, [2]int{6, 2}},
		{"a later term, with less", 5, 0, msg(2, 1, asks, nil, 6, 2, 4), false, [2]int{6, -1}},
		{"the greatest of all", 5, 1, msg(2, 1, asks, nil, 1<<40, 1<<40, 1<<40), true, [2]int{1 << 40, 2}},
		{"the first term of all", 0, -1, msg(2, 1, asks, nil, 0, 3, 4), true, [2]int{0, 2}},
	} {
		b := in(t, 1, 3, -1, x.term, x.vote, log...)
		yes := 0
		if x.yes {
			yes = 1
		}
		are(t, x.name, b.hear(x.m, 0), msg(1, x.m.From, votes, nil, x.then[0], yes))
		if file, _ := b.d.Read("term"); string(file) != string(framed(uv(x.then[0], x.then[1]+1))) {
			t.Errorf("%s: the file is %x, not of %d", x.name, file, x.then)
		}
		b.is(x.name, [5]int{follows, x.then[0], -1, 3, 0})
		b.crash(0)
		// Whom it voted for lasts: the other one has no vote, the same one has it again.
		if x.yes {
			are(t, x.name+", and another one", b.hear(msg(2-x.m.From, 1, asks, nil, x.then[0], 9, 9), 0), msg(1, 2-x.m.From, votes, nil, x.then[0], 0))
			are(t, x.name+", again", b.hear(x.m, 0), msg(1, x.m.From, votes, nil, x.then[0], 1))
		}
	}
}

// TestP16_3AsksEmpty is a node without an entry: any log is as new as its own.
func TestP16_3AsksEmpty(t *testing.T) {
	x := fresh(t, 4, 5, 1000, 0)
	are(t, "the term 0", x.hear(msg(3, 4, asks, nil, 0, 0, 0), 0), msg(4, 3, votes, nil, 0, 1))
	are(t, "the term 1", x.hear(msg(2, 4, asks, nil, 1, 0, 0), 0), msg(4, 2, votes, nil, 1, 1))
	are(t, "the term 2", x.hear(msg(1, 4, asks, nil, 2, 0, 1), 0), msg(4, 1, votes, nil, 2, 1))
	are(t, "the term 2 again", x.hear(msg(0, 4, asks, nil, 2, 0, 1), 0), msg(4, 0, votes, nil, 2, 0))
}

// TestP16_3AsksOthers is candidates and leaders that are asked: in their own term they have voted for themselves, in a later one they follow.
func TestP16_3AsksOthers(t *testing.T) {
	x := in(t, 0, 3, -1, 0, -1)
	x.ticks(9, 0)
	are(t, "a candidate", x.hear(msg(2, 0, asks, nil, 1, 5, 5), 0), msg(0, 2, votes, nil, 1, 0))
	x.is("a candidate", [5]int{stands, 1, -1, 0, 0})
	x.hear(msg(1, 0, votes, nil, 1, 1), 0)
	are(t, "a leader", x.hear(msg(2, 0, asks, nil, 1, 5, 5), 0), msg(0, 2, votes, nil, 1, 0))
	x.is("a leader", [5]int{leads, 1, 0, 1, 0})
	are(t, "of a later term, with less", x.hear(msg(2, 0, asks, nil, 2, 0, 0), 0), msg(0, 2, votes, nil, 2, 0))
	x.is("of a later term", [5]int{follows, 2, -1, 1, 0})
	are(t, "one with more", x.hear(msg(1, 0, asks, nil, 2, 1, 1), 0), msg(0, 1, votes, nil, 2, 1))
	if _, _, e := x.r.Propose([]byte("x")); e != api.ErrLead {
		t.Errorf("it leads no more: error %d", e)
	}
}

// TestP16_3Votes is who becomes leader: a candidate for which most of its own term voted.
func TestP16_3Votes(t *testing.T) {
	for _, x := range []struct {
		name string
		n    int
		l    []api.Msg
		role int
	}{
		{"one of three and itself", 3, []api.Msg{msg(1, 0, votes, nil, 1, 1)}, leads},
		{"the other one", 3, []api.Msg{msg(2, 0, votes, nil, 1, 1)}, leads},
		{"one that does not", 3, []api.Msg{msg(1, 0, votes, nil, 1, 0)}, stands},
		{"one that does not, and one that does", 3, []api.Msg{msg(1, 0, votes, nil, 1, 0), msg(2, 0, votes, nil, 1, 1)}, leads},
		{"of an older term", 3, []api.Msg{msg(1, 0, votes, nil, 0, 1), msg(2, 0, votes, nil, 0, 1)}, stands},
		{"of a later term", 3, []api.Msg{msg(1, 0, votes, nil, 2, 1), msg(2, 0, votes, nil, 2, 1)}, follows},
		{"two of five", 5, []api.Msg{msg(4, 0, votes, nil, 1, 1)}, stands},
		{"three of five", 5, []api.Msg{msg(4, 0, votes, nil, 1, 1), msg(1, 0, votes, nil, 1, 1)}, leads},
		{"one that votes thrice", 5, []api.Msg{msg(4, 0, votes, nil, 1, 1), msg(4, 0, votes, nil, 1, 1), msg(4, 0, votes, nil, 1, 1)}, stands},
		{"one that has changed its mind", 5, []api.Msg{msg(4, 0, votes, nil, 1, 1), msg(4, 0, votes, nil, 1, 0), msg(3, 0, votes, nil, 1, 1)}, leads},
	} {
		b := in(t, 0, x.n, -1, 0, -1)
		b.ticks(9, 0)
		var l []api.Msg
		for _, m := range x.l {
			if len(l) > 0 {
				t.Errorf("%s: it sends too early", x.name)
			}
			l = b.hear(m, 0)
		}
		if role, _, _ := b.r.State(); role != x.role || len(l) > 0 && len(l) != x.n-1 || (len(l) > 0) != (role == leads) {
			t.Errorf("%s: the role is %d, not %d, sent are %d", x.name, role, x.role, len(l))
		}
	}
	x := in(t, 0, 3, -1, 0, -1)
	are(t, "a follower is given a vote", x.hear(msg(1, 0, votes, nil, 0, 1), 0))
	x.is("a follower", [5]int{follows, 0, -1, 0, 0})
}

// TestP16_3OldVotes is a candidate that stands again: who voted for it in the term ahead has not voted in this one.
func TestP16_3OldVotes(t *testing.T) {
	x := in(t, 0, 5, -1, 0, -1)
	x.ticks(9, 0)
	x.hear(msg(1, 0, votes, nil, 1, 1), 0)
	x.ticks(9, 0)
	are(t, "one of the term ahead, late", x.hear(msg(2, 0, votes, nil, 1, 1), 0))
	are(t, "one of this term", x.hear(msg(2, 0, votes, nil, 2, 1), 0))
	x.is("two of five", [5]int{stands, 2, -1, 0, 0})
	if l := x.hear(msg(1, 0, votes, nil, 2, 1), 0); len(l) != 4 {
		t.Errorf("three of five: %v", l)
	}
	x.is("three of five", [5]int{leads, 2, 0, 1, 0})
}

// TestP16_3Leader is what one does that becomes leader: an entry without Data behind its last one, sent to each other node.
func TestP16_3Leader(t *testing.T) {
	x := in(t, 1, 3, -1, 6, -1, en(2, "a"), en(6, "b"))
	x.ticks(9, 0)
	want := packed(en(7, ""))
	are(t, "it leads", x.hear(msg(2, 1, votes, nil, 7, 1), 0), msg(1, 0, entries, want, 7, 2, 6, 0), msg(1, 2, entries, want, 7, 2, 6, 0))
	x.is("it leads", [5]int{leads, 7, 1, 3, 0})
	if string(want) != "\x07\x00" {
		t.Errorf("%x", want)
	}
	x.crash(0)
	x.is("a Crash", [5]int{follows, 7, -1, 3, 0})
}

// TestP16_3Later is a message of each Kind of a later term: a leader follows it, writes it, and has not voted.
func TestP16_3Later(t *testing.T) {
	for _, later := range []int{2, 3, 1 << 40} {
		for kind, m := range map[int]api.Msg{
			asks:    msg(2, 0, asks, nil, later, 0, 0),
			votes:   msg(2, 0, votes, nil, later, 1),
			entries: msg(2, 0, entries, nil, later, 5, 5, 0),
			took:    msg(2, 0, took, nil, later, 1, 9),
		} {
			x := elected(t, 0, 3, 0)
			l := x.hear(m, 0)
			knows := -1
			switch kind {
			case asks:
				are(t, "a later term", l, msg(0, 2, votes, nil, later, 0))
			case entries:
				are(t, "a later term", l, msg(0, 2, took, nil, later, 0, 1))
				knows = 2
			default:
				are(t, "a later term", l)
			}
			x.is("a later term", [5]int{follows, later, knows, 1, 0})
			x.crash(0)
			are(t, "its vote is free", x.hear(msg(1, 0, asks, nil, later, 1, 1), 0), msg(0, 1, votes, nil, later, 1))
		}
	}
}
