package quorum_test

import (
	"bytes"
	"fmt"
	"testing"

	"garner/api"
)

// TestP17_3 is proposals at a leader: each has the next number, is sent, and is taken when most have it.
func TestP17_3(t *testing.T) {
	for _, n := range []int{1, 3, 5} {
		x, who := settled(t, n)
		_, term, _ := x.g.State(who)
		before := x.g.Taken(who)
		for i := range 12 {
			p := []byte(fmt.Sprint("entry ", i))
			if at, e := x.propose(who, p); at != len(before)+i+1 || e != api.OK {
				t.Errorf("Propose is %d, error %d, not %d", at, e, len(before)+i+1)
			}
			isFlight(x, (i+1)*(n-1))
		}
		if l := x.g.Taken(who); n > 1 && len(l) != len(before) || n == 1 && len(l) != len(before)+12 {
			t.Errorf("%d of %d are taken at once", len(l)-len(before), n)
		}
		x.settle(10)
		for id := range n {
			l := x.g.Taken(id)
			if len(l) != len(before)+12 {
				t.Fatalf("%d took %d", id, len(l))
			}
			for i, e := range l[len(before):] {
				if want := fmt.Sprint("entry ", i); e.Term != term || string(e.Data) != want {
					t.Errorf("%d took %v, not %s", id, e, want)
				}
			}
		}
	}
}

// TestP17_3Wrong is proposals that are refused, in the order of the errors: nothing changes.
func TestP17_3Wrong(t *testing.T) {
	for _, n := range []int{1, 3, 5} {
		x, who := settled(t, n)
		wrong := [][]byte{nil, {}, row(65537, 1), row(70000, 1), row(1<<21, 1)}
		for _, p := range append(wrong, []byte("x")) {
			for _, id := range none(n) {
				x.refuses(id, p, api.ErrArg)
			}
			for id := range n {
				if id != who {
					x.refuses(id, p, api.ErrLead)
				}
			}
		}
		for _, p := range wrong {
			x.refuses(who, p, api.ErrArg)
		}
		before := len(x.g.Taken(who))
		for _, size := range []int{1, 65535, 65536} {
			p := row(size, size)
			if i, e := x.propose(who, p); i != before+1 || e != api.OK {
				t.Errorf("%d bytes: %d, error %d", size, i, e)
			}
			x.settle(5)
			before++
			for id := range n {
				if l := x.g.Taken(id); len(l) != before || !bytes.Equal(l[before-1].Data, p) {
					t.Errorf("%d bytes: %d took %s", size, id, short(l))
				}
			}
		}
		x.does(crash(who, 0))
		for _, p := range append(wrong, []byte("x")) {
			x.refuses(who, p, api.ErrNone)
		}
		x.does(start(who))
		for _, p := range append(wrong, []byte("x")) {
			x.refuses(who, p, api.ErrLead)
		}
	}
}

// refuses is a proposal that is refused.
func (x *bench) refuses(node int, p []byte, want api.Errno) {
	x.t.Helper()
	if i, e := x.propose(node, p); i != 0 || e != want {
		x.t.Errorf("Propose of %d bytes at %d: %d, error %d, not %d", len(p), node, i, e, want)
	}
}

// TestP17_3Candidate is a proposal at one that stands for election: it leads not.
func TestP17_3Candidate(t *testing.T) {
	x := fresh(t, 3)
	x.does(tick(0, 14))
	isState(t, x.g, 0, stands, 1, true)
	x.refuses(0, []byte("x"), api.ErrLead)
	isFlight(x, 2)
}

// TestP17_3Taken is what a node took: all since it was opened last, also while it is down; then from the first entry on again.
func TestP17_3Taken(t *testing.T) {
	for _, n := range []int{1, 3, 5} {
		x, who := settled(t, n)
		for _, p := range []string{"a", "b", "c"} {
			x.propose(who, []byte(p))
		}
		x.settle(5)
		all := x.g.Taken(who)
		if len(all) < 4 || string(all[len(all)-1].Data) != "c" {
			t.Fatalf("taken is %v", all)
		}
		for id := range n {
			x.does(crash(id, 0))
			isTaken(t, "down", x.g.Taken(id), all...)
			x.does(tick(-1, 1), crash(id, 3))
			isTaken(t, "down for long", x.g.Taken(id), all...)
			x.does(start(id))
			isTaken(t, "opened again", x.g.Taken(id))
			x.does(tick(id, 1))
			isTaken(t, "opened again, and a tick", x.g.Taken(id))
		}
		x.settle(200)
		who = x.p.leader()
		x.propose(who, []byte("d"))
		x.settle(5)
		for id := range n {
			l := x.g.Taken(id)
			if len(l) <= len(all)+1 || string(l[len(l)-1].Data) != "d" {
				t.Fatalf("%d took %v", id, l)
			}
			isTaken(t, "the first ones", l[:len(all)], all...)
		}
		for _, id := range none(n) {
			isTaken(t, "none", x.g.Taken(id))
			isState(t, x.g, id, 0, 0, false)
		}
	}
}

// TestP17_3Led is who led in which term, through some elections.
func TestP17_3Led(t *testing.T) {
	for _, n := range []int{1, 3, 5} {
		x, _ := settled(t, n)
		led := map[int]int{}
		for range 6 {
			who := x.p.leader()
			_, term, _ := x.g.State(who)
			led[term] = who
			x.leds()
			x.does(crash(who, 0))
			if n == 1 {
				x.does(start(who))
			}
			x.settle(100)
			x.does(start(who))
		}
		for term, who := range led {
			if l := x.g.Led(term); len(l) != 1 || l[0] != who {
				t.Errorf("of the term %d %d led, not %d", term, l, who)
			}
		}
		if len(led) != 6 || len(x.g.Led(0)) > 0 || len(x.g.Led(-1)) > 0 || len(x.g.Led(1<<40)) > 0 {
			t.Errorf("%d terms, and others", len(led))
		}
	}
}
