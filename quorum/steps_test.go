package quorum_test

import (
	"math"
	"testing"

	"garner/api"
)

// none is numbers of nodes that a group of n has not; -1 stands for all where ticks are told.
func none(n int) []int {
	return []int{-1, -2, -3, n, n + 1, 64, 1 << 32, math.MinInt, math.MinInt + 1, math.MaxInt}
}

// TestP17_2Election is an election of three, message by message, by hand.
func TestP17_2Election(t *testing.T) {
	x := fresh(t, 3)
	x.does(tick(0, 14))
	isState(t, x.g, 0, stands, 1, true)
	isFlight(x, 2) // it asks 1 and 2
	x.does(give(1))
	isState(t, x.g, 2, follows, 1, true)
	isState(t, x.g, 1, follows, 0, true)
	isFlight(x, 2) // it asks 1; 2 votes
	x.does(give(1))
	isState(t, x.g, 0, leads, 1, true)
	isFlight(x, 3) // it asks 1; entries to 1 and 2
	x.does(give(2))
	isFlight(x, 3) // it asks 1; entries to 1; 2 took them
	isTaken(t, "ahead of it", x.g.Taken(0))
	x.does(give(2))
	isTaken(t, "what most have", x.g.Taken(0), en(1, ""))
	isTaken(t, "what 2 does not know of yet", x.g.Taken(2))
	isFlight(x, 3) // it asks 1; entries to 1; to 2, that it is agreed upon
	x.does(give(2))
	isTaken(t, "what 2 knows of", x.g.Taken(2), en(1, ""))
	x.does(give(0))
	isState(t, x.g, 1, follows, 1, true)
	x.does(give(0))
	isTaken(t, "what 1 does not know of yet", x.g.Taken(1))
	x.leds()
}

// isFlight asks how many messages are under way.
func isFlight(x *bench, n int) {
	x.t.Helper()
	if got := x.g.Flight(); got != n {
		x.t.Errorf("%d messages are under way, not %d", got, n)
	}
}

// TestP17_2At is the places of messages: the first one, the last one, one behind it and below 0, with none, some and very many of them.
func TestP17_2At(t *testing.T) {
	for _, n := range []int{1, 3, 5} {
		x := fresh(t, n)
		wrong := func() {
			t.Helper()
			count := x.g.Flight()
			for _, at := range []int{-1, -2, count, count + 1, 4096, 1 << 32, math.MinInt, math.MaxInt} {
				x.errs(api.ErrNone, give(at), lose(at), twice(at))
			}
			isFlight(x, count)
		}
		wrong()
		x.errs(api.ErrNone, give(0), lose(0), twice(0))
		x.does(tick(-1, 20))
		wrong()
		if n == 1 {
			continue
		}
		count := x.g.Flight()
		x.does(twice(0), twice(count), twice(1))
		isFlight(x, count+3)
		x.does(lose(count+2), lose(0))
		isFlight(x, count+1)
		wrong()
		x.does(give(0))
		x.does(give(x.g.Flight() - 1))
		x.does(give(0))
		x.does(give(x.g.Flight() - 1))
		wrong()
		for x.g.Flight() > 0 {
			x.does(lose(x.g.Flight() - 1))
		}
		x.errs(api.ErrNone, give(0), lose(0), twice(0))
	}
}

// TestP17_2Down is a message to a node that is down: it is gone, nobody hears it; one from a node that is down is heard.
func TestP17_2Down(t *testing.T) {
	x := fresh(t, 3)
	x.does(tick(0, 14), crash(1, 0))
	isFlight(x, 2)
	x.does(give(0))
	isFlight(x, 1)
	x.does(start(1))
	isState(t, x.g, 1, follows, 0, true)
	x.does(crash(0, 0))
	isFlight(x, 1)
	x.does(give(0))
	isState(t, x.g, 2, follows, 1, true)
	isFlight(x, 1) // its vote, to a node that is down
	x.does(give(0))
	isFlight(x, 0)
	x.does(start(0))
	isState(t, x.g, 0, follows, 1, true)
}

// TestP17_2Lose is a message that is lost: nobody hears it.
func TestP17_2Lose(t *testing.T) {
	x := fresh(t, 3)
	x.does(tick(0, 14), lose(0))
	isFlight(x, 1)
	isState(t, x.g, 1, follows, 0, true)
	x.does(lose(0))
	isFlight(x, 0)
	isState(t, x.g, 2, follows, 0, true)
	isState(t, x.g, 0, stands, 1, true)
}

// TestP17_2Twice is a message that is doubled: each of the two is heard, and a vote that comes twice is one vote.
func TestP17_2Twice(t *testing.T) {
	x := fresh(t, 5)
	x.does(tick(0, 14), give(0))
	isFlight(x, 4) // it asks 2, 3 and 4; 1 votes
	x.does(twice(3))
	isFlight(x, 5)
	x.does(give(4), give(3))
	isState(t, x.g, 0, stands, 1, true)
	x.does(twice(0))
	isFlight(x, 4) // it asks 2, 3, 4 and 2 once more
	x.does(give(3))
	isFlight(x, 4)
	x.does(give(3))
	isState(t, x.g, 0, leads, 1, true)
	isFlight(x, 7) // it asks 2, 3 and 4; entries to each
	x.does(give(0))
	isFlight(x, 7) // 2 votes once more
}

// TestP17_2Full is a Net with 4096 messages, and with one less: none is doubled in a full one, and what is sent into it is lost.
func TestP17_2Full(t *testing.T) {
	for _, n := range []int{3, 5} {
		x, who := settled(t, n)
		x.does(tick(who, 3))
		for x.g.Flight() < 4095 {
			x.does(twice(x.g.Flight() % 7 % x.g.Flight()))
		}
		x.does(twice(4094))
		isFlight(x, 4096)
		x.errs(api.ErrNone, twice(0), twice(4095), twice(1), twice(4096), twice(-1))
		// Three ticks of a leader: it sends entries to each other node.
		x.does(tick(who, 3), tick(who, 300))
		isFlight(x, 4096)
		if i, e := x.propose(who, []byte("lost")); i == 0 || e != api.OK {
			t.Errorf("%d, error %d", i, e)
		}
		x.does(lose(0))
		isFlight(x, 4095)
		x.does(tick(who, 3))
		isFlight(x, 4096) // to the first one of the others; what is for the next ones is lost
		x.does(give(4095))
		isFlight(x, 4096) // its answer
		x.errs(api.ErrNone, twice(0))
		x.does(lose(7), lose(8), tick(-1, 10), give(4095), give(4094), give(0))
		x.does(lose(7), twice(4094))
		for range 50 {
			x.does(give(x.g.Flight() - 1))
			x.does(give(0))
		}
		x.settle(5)
		x.leds()
	}
}

// TestP17_2Ticks is ticks: how many, and whose.
func TestP17_2Ticks(t *testing.T) {
	for _, n := range []int{1, 3, 5} {
		x := fresh(t, n)
		for _, k := range []int{0, -1, -2, 1001, 1002, 1 << 32, math.MinInt, math.MaxInt} {
			x.errs(api.ErrArg, tick(-1, k), tick(0, k), tick(n-1, k), tick(n, k), tick(-2, k))
		}
		for _, id := range none(n)[1:] {
			x.errs(api.ErrArg, tick(id, 1), tick(id, 1000), tick(id, 0), tick(id, 1001))
		}
		// The node 0 waits 14, the last one 14, 16 or 19: none of the ticks above was one.
		x.does(tick(-1, 13))
		isState(t, x.g, 0, follows, 0, true)
		isState(t, x.g, n-1, follows, 0, true)
		x.does(tick(n-1, 1))
		x.does(tick(-1, 1))
		for range 10 {
			x.does(tick(-1, 3), tick(0, 1), tick(n-1, 5))
		}
		x.does(tick(0, 1000), tick(-1, 1000), tick(n-1, 999), tick(-1, 1))
		x.leds()
	}
}

// TestP17_2TicksAll is ticks of all: not N of the one and then N of the next one, but N times one of each, rising.
func TestP17_2TicksAll(t *testing.T) {
	for _, n := range []int{3, 5} {
		one, all := fresh(t, n), fresh(t, n)
		all.does(tick(-1, 60))
		for range 60 {
			for id := range n {
				one.does(tick(id, 1))
			}
		}
		for all.g.Flight() > 0 {
			for id := range n {
				r, term, _ := all.g.State(id)
				isState(t, one.g, id, r, term, true)
			}
			one.does(give(0))
			all.does(give(0))
		}
		isFlight(one, 0)
	}
}

// TestP17_2TicksDown is ticks of nodes that are down: nothing, and no error; the others have theirs.
func TestP17_2TicksDown(t *testing.T) {
	x := fresh(t, 3)
	x.does(crash(0, 0), tick(0, 1), tick(0, 1000), tick(-1, 13))
	isState(t, x.g, 0, 0, 0, false)
	isFlight(x, 0)
	x.does(tick(-1, 1))
	isState(t, x.g, 1, stands, 1, true)
	isFlight(x, 2)
	x.does(crash(1, 0), crash(2, 0), tick(-1, 1000))
	isFlight(x, 2)
	x.does(start(0))
	isState(t, x.g, 0, follows, 0, true)
	// Its wait begins anew.
	x.does(tick(0, 9))
	isState(t, x.g, 0, follows, 0, true)
	x.does(tick(0, 10))
	isState(t, x.g, 0, stands, 1, true)
}

// TestP17_2Crash is nodes that crash and start: their terms, votes and logs last; messages stay under way.
func TestP17_2Crash(t *testing.T) {
	for _, n := range []int{1, 3, 5} {
		x, who := settled(t, n)
		x.propose(who, []byte("x"))
		x.settle(10)
		for _, id := range none(n) {
			x.errs(api.ErrArg, crash(id, 0), crash(id, -1), start(id))
		}
		_, term, _ := x.g.State(who)
		flight := x.g.Flight()
		for _, k := range []int{0, 1, 5, 1000, 1 << 40, math.MaxInt, -1, -2, math.MinInt} {
			x.does(crash(who, k))
			isState(t, x.g, who, 0, 0, false)
			x.does(crash(who, k), crash(who, 0), crash(who, -1))
			isState(t, x.g, who, 0, 0, false)
			x.does(start(who))
			isState(t, x.g, who, follows, term, true)
			x.does(start(who))
			isFlight(x, flight)
		}
		x.settle(60)
		if x.p.leader() < 0 {
			t.Errorf("of %d none leads", n)
		}
		x.leds()
	}
}

// TestP17_2StartUp is a Start of one that is up: nothing, a leader still leads and has what it took.
func TestP17_2StartUp(t *testing.T) {
	for _, n := range []int{1, 3, 5} {
		x, who := settled(t, n)
		_, term, _ := x.g.State(who)
		before := len(x.g.Taken(who))
		x.does(start(who), start(0), start(n-1))
		isState(t, x.g, who, leads, term, true)
		if before == 0 || len(x.g.Taken(who)) != before {
			t.Errorf("%d are taken, not %d", len(x.g.Taken(who)), before)
		}
	}
}

// TestP17_2StartErr is a Start of a node whose disk is spoilt: it stays down, with one draw each; when it is mended, it starts.
func TestP17_2StartErr(t *testing.T) {
	x, _ := settled(t, 5)
	// Its one byte of the term.
	d := x.g.DiskOf(1)
	before := len(x.g.Taken(1))
	x.does(crash(1, 0))
	d.Rot("term", 8, 1)
	made := x.p.draws
	for range 3 {
		if e := x.g.Do(start(1)); e != api.OK {
			t.Errorf("a Start that errs: error %d", e)
		}
		made++
		isState(t, x.g, 1, 0, 0, false)
		if i, e := x.g.Propose(1, []byte("x")); i != 0 || e != api.ErrNone {
			t.Errorf("Propose at one that is down: %d, error %d", i, e)
		}
		x.g.Do(tick(1, 9))
		if n := len(x.g.Taken(1)); n != before {
			t.Errorf("%d are taken, not %d", n, before)
		}
	}
	d.Rot("term", 8, 1)
	if e := x.g.Do(start(1)); e != api.OK {
		t.Errorf("error %d", e)
	}
	made++
	isState(t, x.g, 1, follows, x.p.nodes[1].term, true)
	isTaken(t, "opened again", x.g.Taken(1))
	isAt(t, "Starts that err", x.g, 5, made)
}

// TestP17_2Kinds is Kinds that are none of a group's, with all else as steps have it.
func TestP17_2Kinds(t *testing.T) {
	for _, n := range []int{1, 3, 5} {
		x, who := settled(t, n)
		x.does(tick(who, 3))
		kinds := []int{0, -1, -2, -7, api.StepCall, api.StepRot, 9, 10, 64, 255, 256 + api.StepTick, 1<<32 + api.StepGive, math.MinInt, math.MinInt + api.StepTick, math.MaxInt}
		for _, kind := range kinds {
			for _, id := range []int{-1, 0, who, n} {
				x.errs(api.ErrArg, api.Step{Kind: kind, Node: id, At: 0, N: 1, Call: api.Call{Kind: api.CallGet}})
			}
		}
		// And what the Kinds do not name counts for nothing.
		call := api.Call{Kind: 99, Fid: api.Fid{Volume: 1, Key: 2, Cookie: 3}, Data: []byte("x")}
		if n > 1 {
			x.does(api.Step{Kind: api.StepGive, Node: -9, N: -9, Call: call}, api.Step{Kind: api.StepTwice, Node: 99, N: 2000, Call: call}, api.Step{Kind: api.StepLose, Node: 99, N: -9, Call: call})
		}
		x.does(api.Step{Kind: api.StepTick, Node: 0, At: -9, N: 1, Call: call}, api.Step{Kind: api.StepCrash, Node: 0, At: 999, Call: call}, api.Step{Kind: api.StepStart, Node: 0, At: -9, N: -9, Call: call})
		x.settle(40)
	}
}
