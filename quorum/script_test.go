package quorum_test

import (
	"testing"

	"garner/api"
)

// story is a bench with what was ever seen of all its nodes.
type story struct {
	*bench
	script drawn
	led    map[int]int // who led in a term
	taken  []api.Entry // what was taken by whomever, from the number 1 on
	given  int         // how many proposals were taken in
}

// told is a story of n nodes.
func told(t *testing.T, n, start int) *story {
	t.Helper()
	x := &story{bench: fresh(t, n), script: drawn(start), led: map[int]int{}}
	x.start = start
	return x
}

// holds asks for what has to hold whatever is done: of one term no two led, and what was taken once stays.
func (x *story) holds() {
	x.t.Helper()
	for id := range x.p.nodes {
		if role, term, up := x.g.State(id); up && role == leads {
			if was, ok := x.led[term]; ok && was != id {
				x.t.Errorf("of the term %d %d and %d led", term, was, id)
			}
			x.led[term] = id
			if l := x.g.Led(term); len(l) != 1 || l[0] != id {
				x.t.Errorf("of the term %d %d led, not %d", term, l, id)
			}
		}
		l := x.g.Taken(id)
		both := min(len(l), len(x.taken))
		isTaken(x.t, "what was taken before", l[:both], x.taken[:both]...)
		x.taken = append(x.taken, l[both:]...)
	}
}

// among is the number of a node, now and then of none.
func (x *story) among() int {
	if x.script.below(40) == 0 {
		return []int{-1, len(x.p.nodes)}[x.script.below(2)]
	}
	return x.script.below(len(x.p.nodes))
}

// leader is who leads, or any node.
func (x *story) leader() int {
	if who := x.p.leader(); who >= 0 && x.script.below(4) > 0 {
		return who
	}
	return x.among()
}

// place is the place of a message: mostly the first one, now and then any, or one where nothing is.
func (x *story) place() int {
	n := x.g.Flight()
	switch x.script.below(12) {
	case 0:
		return []int{-1, n, n + 1}[x.script.below(3)]
	case 1, 2, 3:
		return x.script.below(n + 1)
	case 4:
		return n - 1
	}
	return 0
}

// passes is ticks: few, now and then many, or a number that is none.
func (x *story) passes() api.Step {
	node := x.among()
	if x.script.below(3) == 0 {
		node = -1
	}
	switch x.script.below(60) {
	case 0:
		return tick(node, []int{-1, 0, 1001}[x.script.below(3)])
	case 1, 2:
		return tick(node, x.script.below(60)+1)
	}
	return tick(node, x.script.below(6)+1)
}

// one is one thing that is done; how bad the times are says how much is lost, doubled and down.
func (x *story) one(bad int) {
	x.t.Helper()
	switch what := x.script.below(200); {
	case what < 40:
		x.do(x.passes())
	case what < 60:
		if _, e := x.propose(x.leader(), row(x.script.below(20), x.given)); e == api.OK {
			x.given++
		}
	case what < 60+3*bad:
		x.do(lose(x.place()))
	case what < 60+5*bad:
		x.do(twice(x.place()))
	case what < 60+6*bad:
		x.do(crash(x.leader(), x.script.below(9)-4))
	case what < 186:
		x.do(give(x.place()))
	case what < 199:
		x.do(start(x.among()))
	default:
		x.settle(x.script.below(4))
	}
	x.holds()
	// Now and then the messages of long ago come all at once, or go: what is under way would be old ever after.
	if x.g.Flight() > 60 && x.script.below(20) == 0 {
		x.clears([]api.Step{give(0), lose(0)}[x.script.below(2)])
	}
}

// clears does a step to most of the messages.
func (x *story) clears(s api.Step) {
	x.t.Helper()
	for range 50 {
		x.does(s)
	}
	for x.g.Flight() > 40 {
		x.does(s)
		x.holds()
	}
}

// play is a script.
func (x *story) play(steps, bad int) {
	x.t.Helper()
	for range steps {
		x.one(bad)
	}
}

// mostly starts nodes till more than half are up, or all but some.
func (x *story) mostly() {
	x.t.Helper()
	n := len(x.p.nodes)
	up := 0
	for id := range n {
		if x.p.up[id] {
			up++
		}
	}
	for id := 0; id < n && (2*up <= n || x.script.below(2) == 0); id++ {
		if !x.p.up[id] {
			x.does(start(id))
			up++
		}
	}
}

// mends asks for what has to hold with most of them up: one leads behind 200 rounds, and what is proposed there is taken by all that are up behind 20 more.
func (x *story) mends() {
	x.t.Helper()
	x.mostly()
	x.settle(200)
	x.holds()
	who := x.p.leader()
	if who < 0 {
		x.t.Fatalf("none leads, or more than one")
	}
	p := row(10, x.script.below(1000))
	number, e := x.propose(who, p)
	if e != api.OK {
		x.t.Fatalf("Propose: error %d", e)
	}
	x.holds()
	x.settle(20)
	x.holds()
	for id := range x.p.nodes {
		if !x.p.up[id] {
			continue
		}
		if l := x.g.Taken(id); len(l) != number || string(l[number-1].Data) != string(p) {
			x.t.Errorf("%d took %s, and not %d entries", id, short(l), number)
		}
	}
	x.leds()
}

// TestP17_5 is drawn scripts of groups of three and of five, in worse and worse times; what has to hold is asked behind each thing that is done, and P17.6 behind the script.
func TestP17_5(t *testing.T) {
	taken, terms := 0, 0
	for start := range 200 {
		x := told(t, []int{3, 5}[start%2], start)
		x.play(800, start%7)
		taken, terms = taken+len(x.taken), terms+len(x.led)
		x.mends()
	}
	if taken < 2000 || terms < 600 {
		t.Errorf("only %d entries are taken, in %d terms", taken, terms)
	}
}

// TestP17_5One is scripts of a group of one.
func TestP17_5One(t *testing.T) {
	for start := range 20 {
		x := told(t, 1, start)
		x.play(200, start%7)
		x.mends()
	}
}

// TestP17_5Full is scripts with disks of little room: nodes stop at any time, crash and start.
func TestP17_5Full(t *testing.T) {
	stopped, taken := 0, 0
	for start := range 60 {
		x := told(t, []int{3, 5}[start%2], start+100)
		x.leaves(60+7*start, start%11-5)
		x.play(400, start%7)
		for _, s := range x.p.nodes {
			if s.stopped {
				stopped++
			}
		}
		taken += len(x.taken)
		x.leds()
	}
	if stopped < 30 || taken < 200 {
		t.Errorf("only %d stopped, and %d entries are taken", stopped, taken)
	}
}

// TestP17_6 is that most are enough: whoever is down, and whatever is under way, those that are up agree; and each that comes back takes all of it.
func TestP17_6(t *testing.T) {
	for _, n := range []int{1, 3, 5} {
		for set := range 1 << n {
			x := told(t, n, set)
			x.play(60, set%5)
			up := 0
			for id := range n {
				if set>>id&1 == 1 {
					x.does(crash(id, 0))
				} else {
					x.does(start(id))
					up++
				}
			}
			if 2*up <= n {
				continue
			}
			x.mends()
			for id := range n {
				x.does(start(id))
				x.mends()
			}
		}
	}
}

// TestP17_6Late is a Net full of messages of long ago: they come to all, and change nothing that was agreed upon.
func TestP17_6Late(t *testing.T) {
	for start := range 6 {
		x := told(t, []int{3, 5}[start%2], start)
		x.play(150, 0)
		for x.g.Flight() > 0 && x.g.Flight() < 4000 {
			x.does(twice(x.g.Flight() / 2))
		}
		x.play(40, 1)
		x.mends()
	}
}
