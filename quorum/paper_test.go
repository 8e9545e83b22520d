package quorum_test

import (
	"bytes"
	"fmt"
	"math/big"
	"slices"
	"testing"

	"garner/api"
	"garner/quorum"
)

// drawn are numbers that look drawn and are the same each time.
type drawn uint64

// below is a number from 0 to n - 1.
func (x *drawn) below(n int) int {
	*x = *x*6364136223846793005 + 1442695040888963407
	return int(uint64(*x) >> 33 % uint64(n))
}

// row is n bytes that look drawn and are the same each time; another start gives another row.
func row(n int, start int) []byte {
	x := drawn(start)
	b := make([]byte, n)
	for i := range b {
		b[i] = byte(x.below(256))
	}
	return b
}

// Steps.
func give(at int) api.Step       { return api.Step{Kind: api.StepGive, At: at} }
func lose(at int) api.Step       { return api.Step{Kind: api.StepLose, At: at} }
func twice(at int) api.Step      { return api.Step{Kind: api.StepTwice, At: at} }
func tick(node, n int) api.Step  { return api.Step{Kind: api.StepTick, Node: node, N: n} }
func crash(node, n int) api.Step { return api.Step{Kind: api.StepCrash, Node: node, N: n} }
func start(node int) api.Step    { return api.Step{Kind: api.StepStart, Node: node} }

// paper is a group as the chapter's words have it.
type paper struct {
	nodes  []*sheet
	up     []bool
	taken  [][]api.Entry
	flight []mail
	number *big.Int      // out of which the next draw is made
	draws  int           // how many were made
	led    map[int][]int // who led in a term, rising
}

// grouped is a New of n.
func grouped(n int) *paper {
	p := &paper{number: big.NewInt(1), led: map[int][]int{}}
	for id := range n {
		p.nodes = append(p.nodes, &sheet{id: id, n: n, vote: -1})
		p.up = append(p.up, true)
		p.taken = append(p.taken, nil)
		p.nodes[id].opened(p.draw())
	}
	return p
}

// draw makes a draw.
func (p *paper) draw() int {
	p.number.Mul(p.number, big.NewInt(1103515245))
	p.number.Add(p.number, big.NewInt(12345))
	p.number.Mod(p.number, big.NewInt(2147483648))
	p.draws++
	return int(p.number.Int64() / 256)
}

// has tells whether there is such a node.
func (p *paper) has(node int) bool { return 0 <= node && node < len(p.nodes) }

// sends lays messages behind those that are under way, as long as there are fewer than 4096.
func (p *paper) sends(l []mail) {
	for _, m := range l {
		if len(p.flight) < 4096 {
			p.flight = append(p.flight, m)
		}
	}
}

// done is what follows a call of a node that sent messages.
func (p *paper) done(node int, l []mail) {
	p.sends(l)
	x := p.nodes[node]
	p.taken[node] = slices.Concat(p.taken[node], x.take())
	if x.role == leads && !x.stopped && !slices.Contains(p.led[x.term], node) {
		p.led[x.term] = slices.Sorted(slices.Values(append(p.led[x.term], node)))
	}
}

// do is a Do.
func (p *paper) do(s api.Step) api.Errno {
	switch s.Kind {
	case api.StepGive, api.StepLose, api.StepTwice:
		return p.mail(s.Kind, s.At)
	case api.StepTick:
		return p.ticks(s.Node, s.N)
	case api.StepCrash, api.StepStart:
		if !p.has(s.Node) {
			return api.ErrArg
		}
		if s.Kind == api.StepCrash && p.up[s.Node] {
			p.up[s.Node] = false
			if s.N < 0 {
				p.draw()
			}
		}
		if s.Kind == api.StepStart && !p.up[s.Node] {
			p.up[s.Node], p.taken[s.Node] = true, nil
			p.nodes[s.Node].opened(p.draw())
		}
		return api.OK
	}
	return api.ErrArg
}

// mail is what is done to a message.
func (p *paper) mail(kind, at int) api.Errno {
	if at < 0 || at >= len(p.flight) || kind == api.StepTwice && len(p.flight) == 4096 {
		return api.ErrNone
	}
	m := p.flight[at]
	if kind == api.StepTwice {
		p.flight = append(p.flight, m)
		return api.OK
	}
	if at == 0 {
		p.flight = p.flight[1:]
	} else {
		p.flight = slices.Delete(p.flight, at, at+1)
	}
	if kind == api.StepGive && p.up[m.to] {
		draw := p.draw()
		p.done(m.to, p.nodes[m.to].call(func() []mail { return p.nodes[m.to].hear(m, draw) }))
	}
	return api.OK
}

// ticks is a StepTick.
func (p *paper) ticks(node, n int) api.Errno {
	if n < 1 || n > 1000 || node != -1 && !p.has(node) {
		return api.ErrArg
	}
	for range n {
		for id := range p.nodes {
			if node == -1 || node == id {
				p.tick(id)
			}
		}
	}
	return api.OK
}

// tick is a Tick of a node that is up.
func (p *paper) tick(id int) {
	if p.up[id] {
		draw := p.draw()
		p.done(id, p.nodes[id].call(func() []mail { return p.nodes[id].tick(draw) }))
	}
}

// propose is a Propose.
func (p *paper) propose(node int, data []byte) (int, api.Errno) {
	switch {
	case !p.has(node):
		return 0, api.ErrArg
	case !p.up[node]:
		return 0, api.ErrNone
	}
	i, l, e := p.nodes[node].propose(data)
	p.done(node, l)
	return i, e
}

// settle is a Settle.
func (p *paper) settle(ticks int) {
	if ticks > 2000 {
		ticks = 2000
	}
	for i := 0; i < ticks; i++ {
		p.ticks(-1, 1)
		for given := 0; given < 2000 && len(p.flight) > 0; given++ {
			p.mail(api.StepGive, 0)
		}
	}
}

// state is a State.
func (p *paper) state(node int) (role, term int, up bool) {
	switch {
	case !p.has(node) || !p.up[node]:
		return 0, 0, false
	case p.nodes[node].stopped:
		return 0, 0, true
	}
	return p.nodes[node].role, p.nodes[node].term, true
}

// leader is who leads, of those that are up; -1, if that is not one.
func (p *paper) leader() int {
	who := -1
	for id := range p.nodes {
		if role, _, _ := p.state(id); role == leads {
			if who >= 0 {
				return -1
			}
			who = id
		}
	}
	return who
}

// bench is a group, and the same on paper: what is done to the one is done to the other, and they are held against each other. Where they differ first a test ends: behind it all would differ.
type bench struct {
	t     *testing.T
	g     *quorum.Group
	p     *paper
	start int // what its script started with, if it has one
	calls int // how many were made
}

// fresh is a bench of n nodes.
func fresh(t *testing.T, n int) *bench {
	t.Helper()
	g, e := quorum.New(n)
	if g == nil || e != api.OK {
		t.Fatalf("New(%d): error %d", n, e)
	}
	x := &bench{t: t, g: g, p: grouped(n)}
	x.agrees("New")
	return x
}

// leaves lays a file beside those of each node, so that there is so much room for them, and so much more for each next node.
func (x *bench) leaves(room, more int) {
	x.t.Helper()
	for id, s := range x.p.nodes {
		d := x.g.DiskOf(id)
		s.other = 1<<20 - room - more*id
		if e := d.Append("x", make([]byte, s.other)); e != api.OK {
			x.t.Fatalf("error %d", e)
		}
		d.Sync("x")
	}
}

// settled is a bench of n nodes of which one leads; who.
func settled(t *testing.T, n int) (*bench, int) {
	t.Helper()
	x := fresh(t, n)
	x.settle(200)
	if x.p.leader() < 0 {
		t.Fatalf("of %d none leads", n)
	}
	return x, x.p.leader()
}

// do is a step.
func (x *bench) do(s api.Step) api.Errno {
	x.t.Helper()
	name := fmt.Sprintf("step %d, node %d, at %d, n %d", s.Kind, s.Node, s.At, s.N)
	e, want := x.g.Do(s), x.p.do(s)
	if e != want {
		x.t.Errorf("%s: error %d, not %d", name, e, want)
	}
	x.agrees(name)
	return e
}

// does is steps that have to have no error.
func (x *bench) does(l ...api.Step) {
	x.t.Helper()
	for _, s := range l {
		if e := x.do(s); e != api.OK {
			x.t.Fatalf("step %v: error %d", s, e)
		}
	}
}

// errs is steps that have to have an error, and to change nothing.
func (x *bench) errs(want api.Errno, l ...api.Step) {
	x.t.Helper()
	for _, s := range l {
		if e := x.do(s); e != want {
			x.t.Errorf("step %v: error %d, not %d", s, e, want)
		}
	}
}

// propose is a proposal; its number and error.
func (x *bench) propose(node int, p []byte) (int, api.Errno) {
	x.t.Helper()
	i, e := x.g.Propose(node, p)
	if want, wantE := x.p.propose(node, p); i != want || e != wantE {
		x.t.Errorf("Propose of %d bytes at %d: %d, error %d, not %d, %d", len(p), node, i, e, want, wantE)
	}
	x.agrees("Propose")
	return i, e
}

// settle is a Settle.
func (x *bench) settle(ticks int) {
	x.t.Helper()
	x.g.Settle(ticks)
	x.p.settle(ticks)
	x.agrees(fmt.Sprintf("Settle(%d)", ticks))
}

// agrees asks for all that is told.
func (x *bench) agrees(name string) {
	x.t.Helper()
	if n := x.g.Flight(); n != len(x.p.flight) {
		x.t.Errorf("%s: %d messages are under way, not %d", name, n, len(x.p.flight))
	}
	for id := -2; id <= len(x.p.nodes); id++ {
		role, term, up := x.g.State(id)
		if r, t, u := x.p.state(id); role != r || term != t || up != u {
			x.t.Errorf("%s: State(%d) is %d, %d, %t, not %d, %d, %t", name, id, role, term, up, r, t, u)
		}
		var want []api.Entry
		if x.p.has(id) {
			want = x.p.taken[id]
		}
		isTaken(x.t, fmt.Sprintf("%s: Taken(%d)", name, id), x.g.Taken(id), want...)
	}
	if x.calls++; x.t.Failed() {
		x.t.Fatalf("behind %d calls of a group of %d, start %d", x.calls, len(x.p.nodes), x.start)
	}
}

// leds asks who led in each term up to the greatest one that there was.
func (x *bench) leds() {
	x.t.Helper()
	last := 0
	for _, s := range x.p.nodes {
		last = max(last, s.term)
	}
	for term := -1; term <= last+1; term++ {
		if l := x.g.Led(term); !slices.Equal(l, x.p.led[term]) {
			x.t.Errorf("of the term %d %d led, not %d", term, l, x.p.led[term])
		}
	}
}

// alike tells whether two entries are the same.
func alike(e, o api.Entry) bool { return e.Term == o.Term && bytes.Equal(e.Data, o.Data) }

// en is an entry.
func en(term int, data string) api.Entry { return api.Entry{Term: term, Data: []byte(data)} }

// short is anything as text, but its beginning alone.
func short(x any) string { return fmt.Sprintf("%.200s", fmt.Sprint(x)) }

// isTaken asks for entries.
func isTaken(t *testing.T, name string, l []api.Entry, want ...api.Entry) {
	t.Helper()
	if !slices.EqualFunc(l, want, alike) {
		t.Errorf("%s is %s, not %s", name, short(l), short(want))
	}
}

// isState asks for a state.
func isState(t *testing.T, g *quorum.Group, node, role, term int, up bool) {
	t.Helper()
	if r, n, u := g.State(node); r != role || n != term || u != up {
		t.Errorf("State(%d) is %d, %d, %t, not %d, %d, %t", node, r, n, u, role, term, up)
	}
}
