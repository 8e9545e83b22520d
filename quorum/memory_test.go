package quorum_test

import (
	"bytes"
	"math"
	"slices"
	"testing"

	"garner/api"
	"garner/quorum"
)

// roomy is a list with spare room behind it, in which other things stand; and all of that room.
func roomy[T any](l []T, with T) ([]T, []T) {
	whole := slices.Concat(l, slices.Repeat([]T{with}, 20))
	return whole[:len(l)], whole
}

// spoil writes into all of a list, its spare room too.
func spoil[T any](l []T, with T) {
	l = l[:cap(l)]
	for i := range l {
		l[i] = with
	}
}

// TestP17_7 is that a proposal is neither changed nor kept: it is written over as soon as it was handed in.
func TestP17_7(t *testing.T) {
	for _, n := range []int{1, 3, 5} {
		x, who := settled(t, n)
		before := len(x.g.Taken(who))
		for i := range 10 {
			p, whole := roomy(row(i+1, i), 0x55)
			as := bytes.Clone(whole)
			if _, e := x.g.Propose(who, p); e != api.OK {
				t.Errorf("error %d", e)
			}
			if !bytes.Equal(whole, as) {
				t.Error("a proposal is changed")
			}
			x.p.propose(who, row(i+1, i))
			spoil(whole, 0x77)
			x.agrees("written over")
			// Those that are refused too.
			for id := -1; id <= n; id++ {
				if id != who {
					x.g.Propose(id, p)
					x.p.propose(id, p)
				}
			}
			if !bytes.Equal(whole, bytes.Repeat([]byte{0x77}, len(whole))) {
				t.Error("a proposal that is refused is changed")
			}
		}
		x.settle(5)
		for id := range n {
			l := x.g.Taken(id)
			if len(l) != before+10 {
				t.Fatalf("%d took %d", id, len(l))
			}
			for i, e := range l[before:] {
				if !bytes.Equal(e.Data, row(i+1, i)) {
					t.Errorf("%d took %x as the proposal %d", id, e.Data, i)
				}
			}
		}
	}
}

// TestP17_7Steps is that a step's call is neither changed nor kept.
func TestP17_7Steps(t *testing.T) {
	x := fresh(t, 3)
	p, whole := roomy([]byte("data"), 0x55)
	as := bytes.Clone(whole)
	for _, s := range []api.Step{tick(-1, 14), give(0), twice(0), lose(0), crash(1, 0), start(1), {Kind: api.StepCall}, {Kind: api.StepRot}, {}, tick(0, 0), give(-1), crash(9, 0)} {
		s.Call = api.Call{Kind: api.CallPut, Data: p}
		x.do(s)
		if !bytes.Equal(whole, as) {
			t.Errorf("the step %d changes its call", s.Kind)
		}
	}
}

// TestP17_7Taken is that what is answered is new memory: one answer written over, list by list, changes nothing of another one, nor of what is told and done later.
func TestP17_7Taken(t *testing.T) {
	for _, n := range []int{1, 3, 5} {
		x, who := settled(t, n)
		for i := range 9 {
			x.propose(who, row(i*5+1, i))
		}
		x.settle(5)
		for id := range n {
			first, second := x.g.Taken(id), x.g.Taken(id)
			for i := range second {
				spoil(second[i].Data, 0x77)
				isTaken(t, "the entries behind it", second[i+1:], first[i+1:]...)
			}
			spoil(second, api.Entry{Term: 77, Data: []byte("77")})
			isTaken(t, "another answer", first, x.p.taken[id]...)
			x.agrees("written over")
			for i := range first {
				spoil(first[i].Data, 0x77)
			}
			spoil(first, api.Entry{})
			x.agrees("written over")
		}
		// Nor what a node sends of it to one that comes back.
		for id := range n {
			x.does(crash(id, 0), start(id))
		}
		x.settle(200)
		x.propose(x.p.leader(), []byte("x"))
		x.settle(20)
	}
}

// TestP17_7Stays is that answers stay what they are, whatever is called later.
func TestP17_7Stays(t *testing.T) {
	x := told(t, 3, 9)
	var had, as [][]api.Entry
	for range 300 {
		x.one(2)
		id := x.script.below(3)
		had, as = append(had, x.g.Taken(id)), append(as, x.p.taken[id])
	}
	for i := range had {
		isTaken(t, "an answer of before", had[i], as[i]...)
	}
}

// TestP17_7Led is that who led is answered in new memory too.
func TestP17_7Led(t *testing.T) {
	x, who := settled(t, 3)
	_, term, _ := x.g.State(who)
	spoil(x.g.Led(term), 77)
	x.leds()
}

// TestP17_7Nil is a group that is none: Do and Propose answer ErrArg, all else nothing.
func TestP17_7Nil(t *testing.T) {
	var g *quorum.Group
	isNothing(t, g, api.ErrArg)
	for _, s := range []api.Step{give(0), lose(0), twice(0), tick(-1, 1), tick(0, 1), crash(0, 0), crash(0, -1), start(0), {}, {Kind: -1}, {Kind: api.StepCall}, {Kind: api.StepRot}, give(-1), tick(-1, 0), tick(9, 1)} {
		if e := g.Do(s); e != api.ErrArg {
			t.Errorf("step %v: error %d", s, e)
		}
	}
}

// isNothing asks a group without a node for all but steps.
func isNothing(t *testing.T, g *quorum.Group, want api.Errno) {
	t.Helper()
	for _, id := range append(none(5), 0, 1, 4) {
		for _, p := range [][]byte{nil, []byte("x"), row(65537, 1)} {
			if i, e := g.Propose(id, p); i != 0 || e != want {
				t.Errorf("Propose at %d: %d, error %d", id, i, e)
			}
		}
		isTaken(t, "Taken", g.Taken(id))
		isState(t, g, id, 0, 0, false)
		if l := g.Led(id); len(l) > 0 {
			t.Errorf("of the term %d %d led", id, l)
		}
	}
	for _, ticks := range []int{-1, 0, 1, 2000, math.MaxInt, math.MinInt} {
		g.Settle(ticks)
	}
	if g.Flight() != 0 {
		t.Errorf("%d messages are under way", g.Flight())
	}
}

// TestW1 is a group that New did not make: it has no node.
func TestW1(t *testing.T) {
	g := &quorum.Group{}
	isNothing(t, g, api.ErrArg)
	for _, s := range []api.Step{tick(0, 1), crash(0, 0), crash(0, -1), start(0), {}} {
		if e := g.Do(s); e != api.ErrArg {
			t.Errorf("step %v: error %d", s, e)
		}
	}
	for _, s := range []api.Step{give(0), lose(0), twice(0)} {
		if e := g.Do(s); e != api.ErrNone {
			t.Errorf("step %v: error %d", s, e)
		}
	}
	if e := g.Do(tick(-1, 1000)); e != api.OK {
		t.Errorf("ticks of all: error %d", e)
	}
}

// TestW2 is twins: two groups to which the same is done are the same, whatever is done to a third one between.
func TestW2(t *testing.T) {
	for start := range 12 {
		n := []int{1, 3, 5}[start%3]
		one, two, other := told(t, n, start), told(t, n, start), told(t, n, start+500)
		for range 200 {
			one.one(start % 7)
			other.one(3)
			two.one(start % 7)
			if one.g.Flight() != two.g.Flight() {
				t.Errorf("%d and %d messages are under way", one.g.Flight(), two.g.Flight())
			}
			for id := range n {
				role, term, up := one.g.State(id)
				isState(t, two.g, id, role, term, up)
				isTaken(t, "a twin's", one.g.Taken(id), two.g.Taken(id)...)
			}
		}
		for id := range n {
			isDisk(t, one.g, two.g, id)
		}
		if t.Failed() {
			t.Fatalf("start %d", start)
		}
	}
}

// isDisk asks whether the disks of a node of two groups have the same.
func isDisk(t *testing.T, g, o *quorum.Group, id int) {
	t.Helper()
	d, c := g.DiskOf(id), o.DiskOf(id)
	if !slices.Equal(d.List(), c.List()) {
		t.Errorf("files %q and %q", d.List(), c.List())
	}
	for _, name := range d.List() {
		b, _ := d.Read(name)
		if a, _ := c.Read(name); !bytes.Equal(a, b) {
			t.Errorf("%q of %d is %x and %x", name, id, a, b)
		}
	}
}

// TestW8 is a group that is copied as a value between its calls, and only the copy used from then on.
func TestW8(t *testing.T) {
	for start := range 12 {
		x := told(t, []int{3, 5}[start%2], start+40)
		for range 200 {
			x.one(start % 7)
			g := *x.g
			x.g = &g
		}
		x.mends()
	}
}
