package raft_test

import (
	"slices"
	"testing"

	"garner/api"
)

// group is nodes, what is under way between them, and what was ever seen of all of them.
type group struct {
	t       *testing.T
	script  drawn
	nodes   []*bench
	up      []bool
	flight  []api.Msg
	led     map[int]int // who led in a term
	taken   []api.Entry // what was taken by whomever, from the number 1 on
	numbers []int       // how many each has taken since it was opened
	given   int         // how many proposals were taken in
	apart   int         // whose messages are lost now, to it and from it; -1: nobody's
}

// grouped is a group of n nodes whose disks have a room.
func grouped(t *testing.T, n, room, start int) *group {
	g := &group{t: t, script: drawn(start), led: map[int]int{}, up: make([]bool, n), numbers: make([]int, n), apart: -1}
	for id := range n {
		g.nodes = append(g.nodes, fresh(t, id, n, room, g.script.below(1000)))
		g.up[id] = true
	}
	return g
}

// done looks at a node behind a call, and takes what it sent under way.
func (g *group) done(id int, sent []api.Msg) {
	g.t.Helper()
	g.flight = append(g.flight, sent...)
	x := g.nodes[id]
	if role, term, leader := x.r.State(); role == leads {
		if was, ok := g.led[term]; ok && was != id || leader != id {
			g.t.Errorf("of the term %d %d and %d led", term, was, id)
		}
		g.led[term] = id
	}
	for _, e := range x.take() {
		if at := g.numbers[id]; at == len(g.taken) {
			g.taken = append(g.taken, e)
		} else if !alike(g.taken[at], e) {
			g.t.Errorf("the entry %d is taken as %s and as %s", at+1, short(g.taken[at]), short(e))
		}
		g.numbers[id]++
	}
	g.match(id)
}

// match asks of a node's log and the others': with an entry of one number and term, all ahead of it is alike.
func (g *group) match(id int) {
	g.t.Helper()
	own := g.nodes[id].p.log
	for other, x := range g.nodes {
		n := min(len(own), len(x.p.log))
		for n > 0 && own[n-1].Term != x.p.log[n-1].Term {
			n--
		}
		if !slices.EqualFunc(own[:n], x.p.log[:n], alike) {
			g.t.Errorf("the logs of %d and %d have the same entry %d, but not all ahead of it", id, other, n)
		}
	}
}

// tick is a Tick of a node that is up.
func (g *group) tick(id int) {
	g.t.Helper()
	if g.up[id] {
		g.done(id, g.nodes[id].tick(g.script.below(1<<20)))
	}
}

// give is a message that comes; to one that is not up, or is apart, it is lost.
func (g *group) give(at int) {
	g.t.Helper()
	m := g.flight[at]
	g.flight = slices.Delete(g.flight, at, at+1)
	if g.up[m.To] && m.To != g.apart && m.From != g.apart {
		g.done(m.To, g.nodes[m.To].hear(m, g.script.below(1<<20)))
	}
}

// propose is a proposal at a node.
func (g *group) propose(id int) {
	g.t.Helper()
	if !g.up[id] {
		return
	}
	g.given++
	g.done(id, g.nodes[id].propose([]byte{byte(g.given), byte(g.given >> 8), byte(id)}))
}

// crash is a node that is up no more.
func (g *group) crash(id int) {
	if g.up[id] {
		g.up[id] = false
		g.nodes[id].d.Crash(g.script.below(1 << 20))
	}
}

// start is a node that was not up, and is opened again.
func (g *group) start(id int) {
	g.t.Helper()
	if !g.up[id] {
		g.up[id] = true
		g.numbers[id] = 0
		g.nodes[id].open(g.script.below(1 << 20))
	}
}

// step is one thing that happens; how bad the times are says how much is lost, and how much more time passes than messages take.
func (g *group) step(bad int) {
	g.t.Helper()
	id := g.script.below(len(g.nodes))
	what := g.script.below(100)
	switch {
	case what < 26+4*bad || len(g.flight) == 0:
		g.tick(id)
	case what < 80:
		at := 0
		if g.script.below(3) == 0 {
			at = g.script.below(len(g.flight))
		}
		g.give(at)
	case what < 86:
		g.propose(id)
	case what < 86+bad:
		g.flight = slices.Delete(g.flight, 0, 1)
	case what < 86+2*bad:
		m := g.flight[g.script.below(len(g.flight))]
		g.flight = append(g.flight, m)
	case what == 97:
		g.apart = []int{-1, id, g.leader()}[g.script.below(3)]
	case what == 98 && g.script.below(3) > 0:
		g.crash([]int{id, g.leader()}[g.script.below(2)])
	case what >= 98:
		g.start(id)
	}
	if len(g.flight) > 200 {
		g.flight = g.flight[100:]
	}
}

// settle is good times: all are up, all comes, in order.
func (g *group) settle(ticks int) {
	g.t.Helper()
	g.apart = -1
	for id := range g.nodes {
		g.start(id)
	}
	for range ticks {
		for id := range g.nodes {
			g.tick(id)
		}
		for len(g.flight) > 0 {
			g.give(0)
		}
	}
}

// leader is who leads in the latest term.
func (g *group) leader() int {
	latest := 0
	for term := range g.led {
		latest = max(latest, term)
	}
	return g.led[latest]
}

// TestP16_6 is drawn scripts of groups of three and of five: ticks, messages that are given, lost, doubled and late, crashes and starts. What has to hold is asked behind each call.
func TestP16_6(t *testing.T) {
	taken, terms := 0, 0
	for start := range 112 {
		n := []int{3, 5}[start%2]
		bad := start % 6
		g := grouped(t, n, 1<<20, start)
		for step := range 1200 {
			if g.step(bad); t.Failed() {
				t.Fatalf("start %d, step %d", start, step)
			}
		}
		taken, terms = taken+len(g.taken), terms+len(g.led)
		g.settle(200)
		before := len(g.taken)
		g.propose(g.leader())
		g.settle(20)
		for id := range g.nodes {
			if g.numbers[id] != before+1 || len(g.taken) != before+1 {
				t.Errorf("start %d: the node %d took %d of %d, and there were %d", start, id, g.numbers[id], len(g.taken), before)
			}
		}
	}
	if taken < 800 || terms < 300 {
		t.Errorf("only %d entries are taken, in %d terms", taken, terms)
	}
}

// TestP16_6Full is the same with disks of little room: whoever stops, nothing is agreed upon twice.
func TestP16_6Full(t *testing.T) {
	stopped := 0
	for start := range 40 {
		g := grouped(t, []int{3, 5}[start%2], 60+start*7, start+100)
		for step := range 1200 {
			if g.step(start % 6); t.Failed() {
				t.Fatalf("start %d, step %d", start, step)
			}
		}
		for _, x := range g.nodes {
			if x.p.stopped {
				stopped++
			}
		}
	}
	if stopped < 20 {
		t.Errorf("only %d stopped", stopped)
	}
}

// TestP16_6Parted is a leader that is cut off with entries that nobody else has, and comes back: another one leads, and its entries go.
func TestP16_6Parted(t *testing.T) {
	for _, n := range []int{3, 5} {
		g := grouped(t, n, 1<<20, n)
		g.settle(200)
		old := g.leader()
		before := len(g.taken)
		for range 10 {
			g.propose(old)
		}
		g.flight = nil
		last, committed := g.nodes[old].r.Log()
		if last != before+10 || committed != before {
			t.Errorf("Log is %d, %d", last, committed)
		}
		g.apart = old
		for range 200 {
			for id := range n {
				g.tick(id)
			}
			for len(g.flight) > 0 {
				g.give(0)
			}
		}
		if g.leader() == old {
			t.Error("no other one leads")
		}
		g.propose(g.leader())
		// It has not heard of it: it leads, in its own term.
		if role, _, _ := g.nodes[old].r.State(); role != leads {
			t.Errorf("the role is %d", role)
		}
		g.settle(50)
		for id := range n {
			if len(g.taken) != before+2 || g.numbers[id] != before+2 {
				t.Errorf("the node %d took %d of %d", id, g.numbers[id], len(g.taken))
			}
		}
	}
}
