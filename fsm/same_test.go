package fsm_test

import (
	"slices"
	"testing"

	"garner/api"
	"garner/fsm"
)

// pair is a key of a volume.
type pair struct{ id, key int }

// isSame asks two tables whether they are the same, as far as they tell.
func isSame(t *testing.T, a, b *fsm.Table) {
	t.Helper()
	isVolumes(t, "a twin", b.Volumes(), a.Volumes())
	if a.Sum() != b.Sum() {
		t.Errorf("twins have the Sums %08x and %08x", a.Sum(), b.Sum())
	}
}

// asks asks a table all kinds of things, of which none is a command that is done.
func asks(table *fsm.Table, d *drawn) {
	for range d.below(6) {
		switch d.below(7) {
		case 0:
			table.Sum()
		case 1:
			for _, v := range table.Volumes() {
				spoil(v.Nodes, 7)
			}
		case 2:
			v, _ := table.Volume(d.below(12))
			spoil(v.Nodes, 7)
		case 3:
			fsm.Command(d.below(8), up(d.below(5), d.below(70)))
		case 4:
			table.Apply(or(look, d.below(12)).bytes())
		case 5:
			table.Apply(or(nothing).bytes()[:d.below(13)])
		case 6:
			// None of these is ever done, whatever the table has.
			l := []order{or(grow, 5, 5), or(grow), or(assign, 0, 9), or(freeze, 1, 0, 0, 3), or(place, 1, 0, 0, 3), or(freeze, 1, 1, 0), or(7, 1), or(look, 0)}
			table.Apply(l[d.below(len(l))].bytes())
		}
	}
}

// TestP18_4Twins is two tables to which the same is Applied, one of them asked all kinds of things between, and a third one to which other things are.
func TestP18_4Twins(t *testing.T) {
	for start := range 40 {
		x, other := script(t, start), script(t, start+1000)
		twin, asked, d := fsm.New(), fsm.New(), drawn(start+2000)
		for range 250 {
			b := x.draw().bytes()
			want, wantE := x.apply("drawn", b)
			other.one()
			asks(asked, &d)
			for _, table := range []*fsm.Table{twin, asked} {
				if l, e := table.Apply(b); !slices.Equal(l, want) || e != wantE {
					t.Errorf("a twin: %d, error %d, not %d, %d", l, e, want, wantE)
				}
			}
			asks(asked, &d)
			isSame(t, x.table, twin)
			isSame(t, x.table, asked)
			if t.Failed() {
				t.Fatalf("start %d", start)
			}
		}
	}
}

// TestP18_4Errors is that a table without the commands that were refused is the same as one with them, and goes on so.
func TestP18_4Errors(t *testing.T) {
	for start := range 40 {
		x, twin := script(t, start), fsm.New()
		for range 250 {
			b := x.draw().bytes()
			if want, e := x.apply("drawn", b); e == api.OK {
				if l, e := twin.Apply(b); !slices.Equal(l, want) || e != api.OK {
					t.Fatalf("start %d: a twin without the errors: %d, error %d, not %d", start, l, e, want)
				}
			}
			isSame(t, x.table, twin)
		}
	}
}

// TestP18_4Never is what never happens: an Epoch or a State that falls, a volume that goes, an id or a key that is answered twice.
func TestP18_4Never(t *testing.T) {
	for start := range 60 {
		x := script(t, start+300)
		ids, keys := map[int]int{}, map[pair]int{}
		var was []api.Volume
		for range 400 {
			o := x.draw()
			l, e := x.do(o)
			if e == api.OK && o.kind == grow {
				ids[l[0]]++
			}
			if e == api.OK && o.kind == assign {
				keys[pair{l[0], l[1]}]++
			}
			is := x.table.Volumes()
			isLater(t, was, is)
			was = is
		}
		for id, n := range ids {
			if n > 1 || id < 1 || id > len(ids) {
				t.Errorf("the id %d was answered %d times", id, n)
			}
		}
		for p, n := range keys {
			if n > 1 {
				t.Errorf("the key %d of %d was answered %d times", p.key, p.id, n)
			}
		}
		if t.Failed() {
			t.Fatalf("start %d", start)
		}
	}
}

// isLater asks whether volumes are such as may come behind others: all of them, none fallen, and no other Nodes or State without another Epoch.
func isLater(t *testing.T, was, is []api.Volume) {
	t.Helper()
	if len(is) < len(was) || len(is) > len(was)+1 {
		t.Errorf("%d volumes behind %d", len(is), len(was))
		return
	}
	for i, v := range was {
		w := is[i]
		if w.ID != v.ID || w.Epoch < v.Epoch || w.State < v.State {
			t.Errorf("%v became %v", v, w)
		}
		if w.Epoch == v.Epoch && !alike(v, w) {
			t.Errorf("%v became %v in its Epoch", v, w)
		}
	}
}

// TestP18_4Keys is that keys and cookies are told in order, whatever happens between to the same volume and to others.
func TestP18_4Keys(t *testing.T) {
	x := grown(t, []int{3, 4}, []int{4, 5})
	epoch := 1
	for key := 1; key < 200; key++ {
		if key%3 == 0 {
			x.gives([]int{epoch + 1}, freeze, 1, epoch, 0, 4)
			x.errs(api.ErrEpoch, or(assign, 1, 9))
			x.gives([]int{epoch + 2}, place, 1, epoch+1, 0, 3, 4)
			epoch += 2
		}
		x.gives([]int{1, key, cookie(1, key, key*key), epoch, 3, 4}, assign, 1, key*key)
		x.errs(api.ErrNone, or(assign, 3, 9))
	}
	x.gives([]int{2, 1, cookie(2, 1, 9), 1, 4, 5}, assign, 2, 9)
}
