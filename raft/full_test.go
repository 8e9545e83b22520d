package raft_test

import (
	"testing"

	"garner/api"
	"garner/raft"
)

// isStopped asks a node that has stopped for what it says from then on, whatever it is called.
func isStopped(t *testing.T, name string, r *raft.Node) {
	t.Helper()
	for range 2 {
		for range 25 {
			are(t, name+": Tick", r.Tick(0))
		}
		for _, m := range right() {
			for id := range 5 {
				are(t, name+": Hear", r.Hear(api.Msg{From: (id + 1) % 3, To: id, Kind: m.Kind, Nums: m.Nums, Data: m.Data}, 0))
			}
		}
		for _, p := range [][]byte{nil, []byte("x"), row(65537, 1)} {
			if i, l, e := r.Propose(p); i != 0 || len(l) > 0 || e != api.ErrFull {
				t.Errorf("%s: Propose is %d, %v, error %d", name, i, l, e)
			}
		}
		isTaken(t, r.Take())
		role, term, leader := r.State()
		last, committed := r.Log()
		if got := [5]int{role, term, leader, last, committed}; got != [5]int{0, 0, -1, 0, 0} {
			t.Errorf("%s: State and Log are %d", name, got)
		}
	}
}

// TestP16_3Full is a disk that is full at each place where something is written: the node stops in that call, and what it wrote ahead of it has happened.
func TestP16_3Full(t *testing.T) {
	log := []api.Entry{en(1, "a"), en(4, "b"), en(4, "c")}
	// A Save needs 8 bytes and those of two numbers beside the file that is there; an entry 8, those of two numbers, and Data. Behind the term 127 the numbers are longer by one.
	for _, c := range []struct {
		name       string
		term, room int // just enough
		call       func(x *bench)
		then       [2]int // term and vote, if the room is one byte less
		log        []api.Entry
	}{
		{"a Tick that stands", 5, 10, func(x *bench) { x.ticks(9, 0) }, [2]int{5, -1}, log},
		{"a later term", 5, 10, func(x *bench) { x.hear(msg(0, 1, took, nil, 6, 0, 0), 0) }, [2]int{5, -1}, log},
		{"a later term that is longer", 127, 11, func(x *bench) { x.hear(msg(0, 1, took, nil, 128, 0, 0), 0) }, [2]int{127, -1}, log},
		{"a vote", 5, 10, func(x *bench) { x.hear(msg(0, 1, asks, nil, 5, 9, 9), 0) }, [2]int{5, -1}, log},
		{"a vote of a later term", 127, 12, func(x *bench) { x.hear(msg(0, 1, asks, nil, 128, 9, 9), 0) }, [2]int{128, -1}, log},
		{"an entry of a later term", 127, 13, func(x *bench) { x.hear(msg(0, 1, entries, packed(en(128, "x")), 128, 3, 4, 0), 0) }, [2]int{128, -1}, log},
		{"an entry", 5, 12, func(x *bench) { x.hear(msg(0, 1, entries, packed(en(5, "xy")), 5, 3, 4, 4), 0) }, [2]int{5, -1}, log},
		{"the second entry", 5, 25, func(x *bench) { x.hear(msg(0, 1, entries, packed(en(5, "xy"), en(5, "xyz")), 5, 3, 4, 4), 0) }, [2]int{5, -1}, append(log[:3:3], en(5, "xy"))},
		// The two that are cut have 11 bytes each.
		{"an entry in the place of others", 5, 20, func(x *bench) {
			x.hear(msg(0, 1, entries, packed(api.Entry{Term: 5, Data: row(32, 1)}), 5, 1, 1, 0), 0)
		}, [2]int{5, -1}, log[:1]},
		{"a leader's first entry", 127, 12, func(x *bench) {
			x.ticks(9, 0)
			x.hear(msg(0, 1, votes, nil, 128, 1), 0)
		}, [2]int{128, 1}, log},
		{"a proposal", 5, 27, func(x *bench) {
			x.ticks(9, 0)
			x.hear(msg(0, 1, votes, nil, 6, 1), 0)
			x.propose(row(7, 1))
		}, [2]int{6, 1}, append(log[:3:3], en(6, ""))},
	} {
		x := in(t, 1, 3, c.room, c.term, -1, log...)
		c.call(x)
		if role, term, _ := x.r.State(); term == 0 {
			t.Errorf("%s: with enough room the role is %d, the term %d", c.name, role, term)
		}
		x = in(t, 1, 3, c.room-1, c.term, -1, log...)
		c.call(x)
		isStopped(t, c.name, x.r)
		x.agrees(c.name)
		wasWritten(t, c.name, x, c.then, c.log)
	}
	for room, then := range map[int][2]int{10: {127, -1}, 11: {128, 0}} {
		x := in(t, 0, 1, room, 127, -1, log...)
		x.ticks(9, 0)
		isStopped(t, "one alone", x.r)
		wasWritten(t, "one alone", x, then, log)
	}
}

// wasWritten asks for term, vote and log of a disk, behind a Crash.
func wasWritten(t *testing.T, name string, x *bench, then [2]int, log []api.Entry) {
	t.Helper()
	if got := [2]int{x.p.term, x.p.vote}; got != then || len(x.p.log) != len(log) {
		t.Errorf("%s: written are %d and %d entries, not %d and %d", name, got, len(x.p.log), then, len(log))
	}
	x.crash(0)
	x.is(name, [5]int{follows, then[0], -1, len(log), 0})
}

// TestP16_3Rooms is a script of all that is written, on disks of each room: what happens up to where the disk is full, and from then on, is as on paper.
func TestP16_3Rooms(t *testing.T) {
	script := func(x *bench) {
		x.hear(msg(0, 1, asks, nil, 1, 0, 0), 0)
		x.hear(msg(0, 1, entries, packed(en(1, "ab"), en(1, "c")), 1, 0, 0, 1), 0)
		x.take()
		x.hear(msg(2, 1, entries, packed(en(2, "xyz"), en(2, ""), en(2, "uv")), 200, 1, 1, 2), 0)
		x.ticks(9, 0)
		x.hear(msg(2, 1, votes, nil, 201, 1), 0)
		x.take()
		for i := range 4 {
			x.propose(row(10*i+1, i))
			x.hear(msg(0, 1, took, nil, 201, 1, 5+i), 0)
		}
		x.take()
		x.hear(msg(2, 1, asks, nil, 300, 0, 999), 0)
		x.hear(msg(2, 1, entries, packed(en(300, "new")), 300, 8, 201, 9), 0)
		x.take()
	}
	stopped := map[bool]int{}
	for room := range 420 {
		x := fresh(t, 1, 3, room, 0)
		script(x)
		stopped[x.p.stopped]++
		if x.p.stopped {
			isStopped(t, "full", x.r)
		}
		x.crash(0)
		script(x)
		if t.Failed() {
			t.Fatalf("a room of %d", room)
		}
	}
	if stopped[true] < 100 || stopped[false] < 100 {
		t.Errorf("stopped and not: %v", stopped)
	}
}

// TestP16_3Files is a disk that has as many files as there may be: where one more is to be written it is full too.
func TestP16_3Files(t *testing.T) {
	for _, c := range []struct {
		others int
		want   [5]int
	}{
		// The log, the term and, while that is written, one more.
		{api.MaxFiles - 3, [5]int{leads, 1, 0, 1, 1}},
		{api.MaxFiles - 2, [5]int{leads, 1, 0, 1, 1}},
		{api.MaxFiles - 1, [5]int{0, 0, -1, 0, 0}},
		{api.MaxFiles, [5]int{0, 0, -1, 0, 0}},
	} {
		x := fresh(t, 0, 1, 1<<20, 0)
		x.p.others = map[string][]byte{}
		for i := range c.others {
			name := string([]byte{'x', byte(i)})
			x.p.others[name] = []byte{byte(i)}
			lay(t, x.d, name, []byte{byte(i)})
		}
		x.ticks(9, 0)
		x.is("many files", c.want)
		// A second segment.
		x.propose(row(1200, 1))
		x.propose(row(1200, 2))
		x.agrees("many files")
		if stops := c.others > api.MaxFiles-3; stops != x.p.stopped {
			t.Errorf("%d other files: stopped %t", c.others, x.p.stopped)
		}
	}
}

// TestP16_4Full is a proposal that the disk does not take: it is answered ErrFull, as all behind it.
func TestP16_4Full(t *testing.T) {
	for _, n := range []int{1, 3} {
		x := in(t, 0, n, 100, 0, -1)
		x.ticks(9, 0)
		if n > 1 {
			x.hear(msg(1, 0, votes, nil, 1, 1), 0)
		}
		x.propose(row(10, 1))
		// What may not be proposed is no reason to stop.
		x.propose(row(65537, 1))
		if i, l, e := x.r.Propose(row(90, 2)); i != 0 || len(l) > 0 || e != api.ErrFull {
			t.Errorf("%d, %v, error %d", i, l, e)
		}
		isStopped(t, "full", x.r)
		x.p.propose(row(90, 2))
		x.agrees("full")
		x.crash(0)
		x.is("a Crash", [5]int{follows, 1, -1, 2, 0})
	}
}

// TestP16_3NoRoom is a disk without any room: a node is opened, and stops when it is first to write.
func TestP16_3NoRoom(t *testing.T) {
	for _, n := range []int{1, 3, 5} {
		x := fresh(t, 0, n, 0, 9)
		are(t, "no room", x.ticks(18, 0))
		isStopped(t, "no room", x.r)
	}
	x := fresh(t, 0, 3, 0, 0)
	are(t, "what is not to be written", x.hear(msg(1, 0, entries, nil, 0, 0, 0, 0), 0), msg(0, 1, took, nil, 0, 1, 0))
	are(t, "a vote", x.hear(msg(1, 0, asks, nil, 0, 0, 0), 0))
	isStopped(t, "a vote", x.r)
}
