package raft_test

import (
	"testing"

	"garner/api"
)

// told is a follower, the node 1 of 3, with a log of which the first ones are committed: it was told so by the node 0, in the term 5.
func told(t *testing.T, committed int, l ...api.Entry) *bench {
	t.Helper()
	x := in(t, 1, 3, -1, 5, 0, l...)
	if committed > 0 {
		x.hear(msg(0, 1, entries, nil, 5, committed, x.p.termAt(committed), committed), 0)
	}
	return x
}

// TestP16_3Entries is a follower that is sent entries: what it has, what it answers, and what is agreed upon then.
func TestP16_3Entries(t *testing.T) {
	log := []api.Entry{en(1, "a"), en(2, "b"), en(2, "c"), en(4, "d")}
	for _, x := range []struct {
		name      string
		committed int
		data      []byte
		nums      []int
		answer    [2]int // 1 or 0, and a number
		log       []api.Entry
		then      int // what is committed
	}{
		{"none, at the end", 0, nil, []int{5, 4, 4, 0}, [2]int{1, 4}, log, 0},
		{"none, at the end, all are committed", 0, nil, []int{5, 4, 4, 4}, [2]int{1, 4}, log, 4},
		{"none, at the end, committed beyond it", 0, nil, []int{5, 4, 4, 9}, [2]int{1, 4}, log, 4},
		{"none, in the midst", 0, nil, []int{5, 2, 2, 1}, [2]int{1, 2}, log, 1},
		{"none, in the midst, committed beyond it", 0, nil, []int{5, 2, 2, 1 << 40}, [2]int{1, 2}, log, 2},
		{"none, at the beginning", 0, nil, []int{5, 0, 0, 4}, [2]int{1, 0}, log, 0},
		{"less is committed than before", 3, nil, []int{5, 4, 4, 1}, [2]int{1, 4}, log, 3},
		{"one behind the last", 0, packed(en(5, "e")), []int{5, 4, 4, 2}, [2]int{1, 5}, append(log[:4:4], en(5, "e")), 2},
		{"one behind the last, committed", 4, packed(en(5, "e")), []int{5, 4, 4, 5}, [2]int{1, 5}, append(log[:4:4], en(5, "e")), 5},
		{"one behind the last, of an older term", 0, packed(en(3, "e")), []int{5, 4, 4, 0}, [2]int{1, 5}, append(log[:4:4], en(3, "e")), 0},
		{"some that are there", 0, packed(en(2, "b"), en(2, "c")), []int{5, 1, 1, 9}, [2]int{1, 3}, log, 3},
		{"some that are there, with other Data", 0, packed(en(2, "x"), en(2, "y")), []int{5, 1, 1, 0}, [2]int{1, 3}, log, 0},
		{"all that are there, and one more", 0, packed(en(1, "a"), en(2, "b"), en(2, "c"), en(4, "d"), en(5, "e")), []int{5, 0, 0, 0}, [2]int{1, 5}, append(log[:4:4], en(5, "e")), 0},
		{"the last one is of another term", 0, packed(en(2, "c"), en(5, "x")), []int{5, 2, 2, 3}, [2]int{1, 4}, append(log[:3:3], en(5, "x")), 3},
		{"the second one is of another term", 0, packed(en(3, "x")), []int{5, 1, 1, 2}, [2]int{1, 2}, append(log[:1:1], en(3, "x")), 2},
		{"the first one is of another term", 0, packed(en(3, "x"), en(3, "")), []int{5, 0, 0, 0}, [2]int{1, 2}, []api.Entry{en(3, "x"), en(3, "")}, 0},
		{"just above committed it differs", 2, packed(en(2, "b"), en(3, "x")), []int{5, 1, 1, 2}, [2]int{1, 3}, append(log[:2:2], en(3, "x")), 2},
		{"no entry of that number", 0, packed(en(5, "x")), []int{5, 5, 4, 0}, [2]int{0, 4}, log, 0},
		{"no entry of a number far beyond", 0, packed(en(5, "x")), []int{5, 1 << 40, 4, 1 << 40}, [2]int{0, 4}, log, 0},
		{"no entry of that number, committed", 2, nil, []int{5, 6, 4, 4}, [2]int{0, 4}, log, 2},
		{"another term at the end", 0, packed(en(5, "x")), []int{5, 4, 3, 4}, [2]int{0, 3}, log, 0},
		{"another term in the midst", 0, nil, []int{5, 2, 1, 4}, [2]int{0, 1}, log, 0},
		{"another term at 1", 0, nil, []int{5, 1, 2, 4}, [2]int{0, 0}, log, 0},
		{"another term at 0", 0, packed(en(1, "a")), []int{5, 0, 1, 4}, [2]int{0, 0}, log, 0},
		{"the term 0 at 1", 0, nil, []int{5, 1, 0, 4}, [2]int{0, 0}, log, 0},
	} {
		b := told(t, x.committed, log...)
		are(t, x.name, b.hear(msg(2, 1, entries, x.data, x.nums...), 0), msg(1, 2, took, nil, 5, x.answer[0], x.answer[1]))
		b.is(x.name, [5]int{follows, 5, 2, len(x.log), x.then})
		isTaken(t, b.take(), x.log[:x.then]...)
		b.crash(0)
		b.hear(msg(2, 1, entries, nil, 5, len(x.log), x.log[len(x.log)-1].Term, 99), 0)
		isTaken(t, b.take(), x.log...)
	}
}

// TestP16_3Committed is entries of which the first one that differs is not above committed: nothing is cut, laid or answered.
func TestP16_3Committed(t *testing.T) {
	log := []api.Entry{en(1, "a"), en(2, "b"), en(2, "c"), en(4, "d")}
	for _, x := range []struct {
		name string
		data []byte
		nums []int
	}{
		{"at committed", packed(en(3, "x")), []int{5, 2, 2, 0}},
		{"at committed, and more of them", packed(en(2, "b"), en(3, "x"), en(4, "y")), []int{5, 1, 1, 0}},
		{"at committed, and more is committed", packed(en(3, "x"), en(4, "d")), []int{5, 2, 2, 4}},
		{"below committed", packed(en(3, "x"), en(2, "c"), en(4, "d"), en(5, "e")), []int{5, 1, 1, 3}},
		{"at 1", packed(en(5, "")), []int{5, 0, 0, 0}},
		{"of a later term", packed(en(3, "x")), []int{6, 2, 2, 0}},
	} {
		b := told(t, 3, log...)
		are(t, x.name, b.hear(msg(2, 1, entries, x.data, x.nums...), 0))
		b.is(x.name, [5]int{follows, x.nums[0], 2, 4, 3})
		isTaken(t, b.take(), log[:3]...)
	}
}

// TestP16_3OldEntries is entries of an older term: they are refused with its own term, and change nothing.
func TestP16_3OldEntries(t *testing.T) {
	for _, term := range []int{0, 4} {
		x := told(t, 1, en(1, "a"))
		are(t, "an older term", x.hear(msg(2, 1, entries, packed(en(4, "x")), term, 1, 1, 1), 9), msg(1, 2, took, nil, 5, 0, 0))
		x.is("an older term", [5]int{follows, 5, 0, 1, 1})
	}
	x := in(t, 0, 3, -1, 5, -1)
	x.ticks(9, 0)
	are(t, "a candidate", x.hear(msg(2, 0, entries, packed(en(5, "x")), 5, 0, 0, 1), 0), msg(0, 2, took, nil, 6, 0, 0))
	x.is("a candidate", [5]int{stands, 6, -1, 0, 0})
	x.hear(msg(1, 0, votes, nil, 6, 1), 0)
	are(t, "a leader", x.hear(msg(2, 0, entries, packed(en(5, "x")), 5, 0, 0, 1), 0), msg(0, 2, took, nil, 6, 0, 0))
	x.is("a leader", [5]int{leads, 6, 0, 1, 0})
}

// TestP16_3Gives is a candidate, and even a leader, that is sent entries of its own term: it follows.
func TestP16_3Gives(t *testing.T) {
	x := in(t, 0, 3, -1, 5, -1)
	x.ticks(9, 0)
	are(t, "a candidate", x.hear(msg(2, 0, entries, packed(en(6, "x")), 6, 0, 0, 1), 0), msg(0, 2, took, nil, 6, 1, 1))
	x.is("a candidate", [5]int{follows, 6, 2, 1, 1})
	are(t, "a vote comes late", x.hear(msg(1, 0, votes, nil, 6, 1), 0))
	x.is("a vote comes late", [5]int{follows, 6, 2, 1, 1})

	x = elected(t, 0, 3, 5)
	are(t, "a leader", x.hear(msg(2, 0, entries, packed(en(6, "x")), 6, 0, 0, 1), 0), msg(0, 2, took, nil, 6, 1, 1))
	x.is("a leader", [5]int{follows, 6, 2, 1, 1})
}

// TestP16_3Many is eight entries at once, with Data of many lengths, and the terms and numbers at their greatest.
func TestP16_3Many(t *testing.T) {
	x := told(t, 0)
	l := []api.Entry{en(0, "a"), en(0, ""), en(1, string(row(127, 1))), en(1, string(row(128, 2))), en(2, string(row(16384, 3))), en(3, string(row(65536, 4))), en(3, string(row(70000, 5))), en(1<<40, "h")}
	are(t, "eight", x.hear(msg(0, 1, entries, packed(l...), 1<<40, 0, 0, 1<<40), 0), msg(1, 0, took, nil, 1<<40, 1, 8))
	x.is("eight", [5]int{follows, 1 << 40, 0, 8, 8})
	isTaken(t, x.take(), l...)
	x.crash(0)
	x.hear(msg(0, 1, entries, nil, 1<<40, 8, 1<<40, 8), 0)
	isTaken(t, x.take(), l...)
}

// TestP16_3Longest is entries at the end of what a log holds: what no log can have is no entry.
func TestP16_3Longest(t *testing.T) {
	for _, term := range []int{1, 128, 1 << 40} {
		longest := api.MaxFrame - 10 - len(uv(term))
		x := told(t, 0)
		are(t, "the longest", x.hear(msg(0, 1, entries, packed(api.Entry{Term: term, Data: row(longest, 1)}), 5, 0, 0, 0), 0), msg(1, 0, took, nil, 5, 1, 1))
		x = told(t, 0)
		are(t, "a byte more", x.r.Hear(msg(0, 1, entries, packed(api.Entry{Term: term, Data: row(longest+1, 1)}), 6, 0, 0, 0), 0))
		x.agrees("a byte more")
	}
}

// brought is a leader's and a follower's messages, given till none is left, at most n; how many they were.
func brought(t *testing.T, leader, other *bench, l []api.Msg, n int) int {
	t.Helper()
	given := 0
	for len(l) > 0 {
		m := l[0]
		l = l[1:]
		if given++; given > n {
			t.Fatalf("more than %d messages", n)
		}
		switch m.To {
		case leader.p.id:
			l = append(l, leader.hear(m, 0)...)
		case other.p.id:
			l = append(l, other.hear(m, 0)...)
		default:
			given--
		}
	}
	return given
}

// TestP16_3Brought is followers whose logs are behind the leader's, ahead of it, or apart from it: each is brought to it, and takes the same.
func TestP16_3Brought(t *testing.T) {
	log := []api.Entry{en(1, "a"), en(1, "b"), en(2, "c"), en(4, "d"), en(4, "e")}
	long := log[:5:5]
	for i := range 30 {
		long = append(long, en(5, string(row(i, i))))
	}
	for _, x := range []struct {
		name          string
		leads, others []api.Entry
		n             int // how many messages it takes
	}{
		// Of the same: entries, took, that all is committed, took.
		{"the same", log, log, 4},
		// It is told by no (0), and each time that it took some it is sent the next.
		{"nothing at all", log, nil, 6},
		{"behind by one", log, log[:4], 6},
		{"ahead by one", log, append(log[:5:5], en(4, "x")), 4},
		{"ahead by many", log, append(log[:5:5], terms(4, 4, 4, 4, 4, 4, 4, 4, 4, 4)...), 4},
		{"apart at the last", log, append(log[:4:4], en(3, "x")), 6},
		{"apart from 3 on", log, append(log[:2:2], terms(1, 1, 1, 1)...), 10},
		{"apart from 1 on", log, terms(3, 3, 3, 3, 3, 3), 14},
		{"apart from 1 on, and shorter", log, terms(3, 3), 10},
		{"far behind", long, log[:1], 14},
		// Seven times no (at 35, and at 11 down to 6), then four times some of 31 entries, and that all is committed.
		{"far apart", long, append(log[:5:5], terms(4, 4, 4, 4, 4, 4)...), 24},
		{"empty", nil, terms(3, 3, 3), 4},
	} {
		a, b := in(t, 0, 3, -1, 5, -1, x.leads...), in(t, 1, 3, -1, 5, -1, x.others...)
		a.ticks(9, 0)
		b.hear(msg(2, 1, asks, nil, 6, 1<<40, 6), 0)
		l := a.hear(msg(2, 0, votes, nil, 6, 1), 0)
		if n := brought(t, a, b, l, 99); n != x.n {
			t.Errorf("%s: %d messages, not %d", x.name, n, x.n)
		}
		want := append(x.leads[:len(x.leads):len(x.leads)], en(6, ""))
		isTaken(t, a.take(), want...)
		isTaken(t, b.take(), want...)
		b.is(x.name, [5]int{follows, 6, 0, len(want), len(want)})
	}
}
