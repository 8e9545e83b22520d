package quorum_test

import (
	"math"
	"slices"
	"testing"

	"garner/api"
	"garner/quorum"
)

// nth is the draws from number k on (the first one has the number 1), n of them.
func nth(k, n int) []int {
	p := grouped(1)
	p = &paper{number: p.number.SetInt64(1)}
	for range k - 1 {
		p.draw()
	}
	var l []int
	for range n {
		l = append(l, p.draw())
	}
	return l
}

// waits is for each node how many Ticks it takes till it stands for another election.
func waits(t *testing.T, g *quorum.Group, n int) []int {
	t.Helper()
	l := make([]int, n)
	for id := range n {
		_, was, up := g.State(id)
		for term := was; term == was && up && l[id] < 30; l[id]++ {
			g.Do(tick(id, 1))
			_, term, _ = g.State(id)
		}
	}
	return l
}

// isAt asks a group of n how many draws were made: all are crashed without one and opened again, and how long they wait then tells what their draws were.
func isAt(t *testing.T, name string, g *quorum.Group, n, made int) {
	t.Helper()
	for id := range n {
		g.Do(crash(id, 0))
	}
	for id := range n {
		g.Do(start(id))
	}
	var want []int
	for _, draw := range nth(made+1, n) {
		want = append(want, 10+draw%10)
	}
	if l := waits(t, g, n); !slices.Equal(l, want) {
		t.Errorf("%s: the nodes wait %d, not %d: not %d draws were made", name, l, want, made)
	}
}

// TestP17_1Draws is the first draws, by hand: 1103527590, 377401575, 662824084, 1147902781, 2035015474 without their lowest eight digits.
func TestP17_1Draws(t *testing.T) {
	by := []int{4310654, 1474224, 2589156, 4483995, 7949279}
	if l := nth(1, 5); !slices.Equal(l, by) {
		t.Fatalf("on paper they are %d", l)
	}
	want := []int{14, 14, 16, 15, 19}
	for _, n := range []int{1, 3, 5} {
		g, _ := quorum.New(n)
		if l := waits(t, g, n); !slices.Equal(l, want[:n]) {
			t.Errorf("of %d nodes each waits %d, not %d", n, l, want[:n])
		}
	}
}

// TestP17_2DrawsOfTicks is draws for Ticks, by hand: each of them has one, and how long a node waits that stands for election is told by that of its own Tick.
func TestP17_2DrawsOfTicks(t *testing.T) {
	x := fresh(t, 3)
	// Draws 1 to 3 were those of New; the fourteenth Tick has the draw 17, and one waits anew by it.
	x.does(tick(0, 13))
	isState(t, x.g, 0, follows, 0, true)
	x.does(tick(0, 1))
	isState(t, x.g, 0, stands, 1, true)
	wait := 10 + nth(17, 1)[0]%10
	x.does(tick(0, wait-1))
	isState(t, x.g, 0, stands, 1, true)
	x.does(tick(0, 1))
	isState(t, x.g, 0, stands, 2, true)
	// The node 1 was told of no Tick: it waits 14 as at first.
	x.does(tick(1, 13))
	isState(t, x.g, 1, follows, 0, true)
	x.does(tick(1, 1))
	isState(t, x.g, 1, stands, 1, true)
}

// TestP17_2DrawsOfHears is a node that waits anew by the draw of what it hears, by hand.
func TestP17_2DrawsOfHears(t *testing.T) {
	x := fresh(t, 3)
	x.does(tick(0, 14))
	// Draws 1 to 3 of New, 4 to 17 of Ticks; the node 1 hears with the draw 18 that it is asked for its vote.
	x.does(give(0))
	isState(t, x.g, 1, follows, 1, true)
	wait := 10 + nth(18, 1)[0]%10
	x.does(tick(1, wait-1))
	isState(t, x.g, 1, follows, 1, true)
	x.does(tick(1, 1))
	isState(t, x.g, 1, stands, 2, true)
}

// TestP17_2Draws is how many draws each step makes, behind the five of New.
func TestP17_2Draws(t *testing.T) {
	asked := tick(0, 14) // its wait is over then: four messages are under way
	for _, c := range []struct {
		name  string
		steps []api.Step
		made  int
	}{
		{"nothing", nil, 0},
		{"a tick", []api.Step{tick(0, 1)}, 1},
		{"ticks of one", []api.Step{tick(4, 7)}, 7},
		{"most ticks of one", []api.Step{tick(3, 1000)}, 1000},
		{"a tick of all", []api.Step{tick(-1, 1)}, 5},
		{"ticks of all", []api.Step{tick(-1, 9)}, 45},
		{"most ticks of all", []api.Step{tick(-1, 1000)}, 5000},
		{"ticks of all but two", []api.Step{crash(1, 0), crash(4, 0), tick(-1, 3)}, 9},
		{"ticks of one that is down", []api.Step{crash(1, 0), tick(1, 9)}, 0},
		{"wrong ticks", []api.Step{tick(0, 0), tick(0, -1), tick(-1, 1001), tick(-1, 0), tick(5, 1), tick(-2, 1)}, 0},
		{"a crash without", []api.Step{crash(0, 0)}, 0},
		{"crashes without", []api.Step{crash(0, 1), crash(1, 2), crash(2, 1000), crash(3, 1<<31), crash(4, math.MaxInt)}, 0},
		{"a crash with", []api.Step{crash(0, -1)}, 1},
		{"crashes with", []api.Step{crash(0, -1), crash(1, -2), crash(2, -1000), crash(3, math.MinInt)}, 4},
		{"a crash of one that is down", []api.Step{crash(0, 0), crash(0, -1), crash(0, -1)}, 0},
		{"a crash of none", []api.Step{crash(-1, -1), crash(5, -1)}, 0},
		{"a start", []api.Step{crash(0, 0), start(0)}, 1},
		{"a crash with, and a start", []api.Step{crash(0, -5), start(0)}, 2},
		{"starts of those that are up", []api.Step{start(0), start(1), start(4)}, 0},
		{"starts of none", []api.Step{start(-1), start(5)}, 0},
		{"a message that is given", []api.Step{asked, give(0)}, 15},
		{"two that are given", []api.Step{asked, give(3), give(0)}, 16},
		{"one that is none", []api.Step{asked, give(4), give(-1)}, 14},
		{"one to a node that is down", []api.Step{asked, crash(1, 0), give(0)}, 14},
		{"one from a node that is down", []api.Step{asked, crash(0, 0), give(0)}, 15},
		{"messages that are lost and doubled", []api.Step{asked, lose(0), twice(0), lose(1), twice(7), lose(7)}, 14},
		{"other kinds", []api.Step{{Kind: api.StepCall}, {Kind: api.StepRot}, {Kind: 0}, {Kind: -1}}, 0},
	} {
		g, _ := quorum.New(5)
		for _, s := range c.steps {
			g.Do(s)
		}
		isAt(t, c.name, g, 5, 5+c.made)
	}
}

// TestP17_3Draws is that what is no step makes no draw.
func TestP17_3Draws(t *testing.T) {
	g, _ := quorum.New(5)
	g.Do(tick(0, 14))
	for id := -1; id <= 5; id++ {
		g.Propose(id, []byte("x"))
		g.Taken(id)
		g.State(id)
		g.Flight()
		g.Led(id)
	}
	isAt(t, "what is no step", g, 5, 5+14)
}

// TestP17_4Draws is how many draws a Settle makes behind those of New: one for each Tick, one for each message that somebody hears.
func TestP17_4Draws(t *testing.T) {
	for _, c := range []struct {
		n, ticks int
		down     []int
		made     int
	}{
		{5, 0, nil, 0},
		{5, -1, nil, 0},
		{5, math.MinInt, nil, 0},
		{5, 1, nil, 5},
		{5, 13, nil, 65},
		{5, 13, []int{2, 3}, 39},
		{5, 2000, []int{0, 1, 2, 3, 4}, 0},
		{1, 2000, nil, 2000},
		{1, 2001, nil, 2000},
		{1, math.MaxInt, nil, 2000},
		// 42 Ticks; behind the last ones 0 and 1 ask two each (4 messages), each is answered (4); 2 voted for 0, which leads and sends entries (2), and is told that they are taken (2); behind the first of these it sends to 1 that they are agreed upon (1), and is answered (1).
		{3, 14, nil, 42 + 14},
		// 28 Ticks; 0 asks 2, which votes for it (2), sends it entries, which it takes (2), and tells it that they are agreed upon (2); what is sent to 1 nobody hears.
		{3, 14, []int{1}, 28 + 6},
	} {
		g, _ := quorum.New(c.n)
		for _, id := range c.down {
			g.Do(crash(id, 0))
		}
		g.Settle(c.ticks)
		isAt(t, "Settle", g, c.n, c.n+c.made)
	}
}

// TestP17_2CrashDraw is a Crash of a disk with N, or with a draw: it tells how many bytes of a file stay that do not last.
func TestP17_2CrashDraw(t *testing.T) {
	for _, c := range []struct{ n, want int }{
		{0, 0}, {1, 1}, {7, 7}, {100, 100}, {101, 0}, {102, 1}, {1013, 3},
		// Behind the five draws of New, for those below 0.
		{-1, nth(6, 1)[0] % 101}, {-77, nth(6, 1)[0] % 101}, {math.MinInt, nth(6, 1)[0] % 101},
	} {
		x := fresh(t, 5)
		d := x.g.DiskOf(2)
		d.Append("x", make([]byte, 100))
		other := x.g.DiskOf(3)
		other.Append("x", make([]byte, 100))
		x.does(crash(2, c.n))
		if n, _ := d.Size("x"); n != c.want {
			t.Errorf("a Crash with %d: %d bytes stay, not %d", c.n, n, c.want)
		}
		// One that is down does not crash, and a Start crashes nothing.
		d.Append("x", make([]byte, 50))
		x.does(crash(2, 0), crash(2, -1), start(2), start(2))
		if n, _ := d.Size("x"); n != c.want+50 {
			t.Errorf("a Crash of one that is down: %d bytes, not %d", n, c.want+50)
		}
		if n, _ := other.Size("x"); n != 100 {
			t.Errorf("another one crashes: %d bytes", n)
		}
	}
}
