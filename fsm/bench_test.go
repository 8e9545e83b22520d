package fsm_test

import (
	"bytes"
	"fmt"
	"maps"
	"math"
	"slices"
	"testing"

	"garner/api"
	"garner/fsm"
)

// bench is a table, and the same on paper: what is done to the one is done to the other, and they are held against each other. Where they differ first a test ends: behind it all would differ.
type bench struct {
	t     *testing.T
	table *fsm.Table
	p     *paper
	calls int // how many were made
}

// fresh is a bench without a volume.
func fresh(t *testing.T) *bench {
	t.Helper()
	x := &bench{t: t, table: fsm.New(), p: &paper{volumes: map[int]*sheet{}}}
	x.agrees("New")
	return x
}

// grown is a bench with a volume of each of these nodes.
func grown(t *testing.T, nodes ...[]int) *bench {
	t.Helper()
	x := fresh(t)
	for i, l := range nodes {
		x.gives([]int{i + 1}, grow, l...)
	}
	return x
}

// stripped is a bench whose volume 1 is Strips of these nodes; its Epoch is 3.
func stripped(t *testing.T, nodes ...int) *bench {
	t.Helper()
	x := grown(t, []int{60})
	x.gives([]int{2}, freeze, 1, 1, api.Sealed, 60)
	x.gives([]int{3}, place, slices.Concat([]int{1, 2, api.Strips}, nodes)...)
	return x
}

// apply is bytes that are Applied.
func (x *bench) apply(name string, b []byte) ([]int, api.Errno) {
	x.t.Helper()
	l, e := x.table.Apply(b)
	want, wantE := x.p.apply(b)
	if !slices.Equal(l, want) || e != wantE {
		x.t.Errorf("%s: %d, error %d, not %d, %d", name, l, e, want, wantE)
	}
	x.agrees(name)
	return l, e
}

// do is an order, by the bytes that Command makes of it, if it makes some.
func (x *bench) do(o order) ([]int, api.Errno) {
	x.t.Helper()
	name := fmt.Sprintf("Kind %d, Nums %d", o.kind, o.nums)
	b := o.bytes()
	if c, e := fsm.Command(o.kind, o.nums); e == api.OK && !bytes.Equal(b, c) {
		x.t.Errorf("%s: Command is %x, not %x", name, c, b)
	}
	return x.apply(name, b)
}

// gives is an order that has to be done, with this answer.
func (x *bench) gives(want []int, kind int, nums ...int) {
	x.t.Helper()
	if l, e := x.do(order{kind, nums}); !slices.Equal(l, want) || e != api.OK {
		x.t.Fatalf("Kind %d, Nums %d: %d, error %d, not %d", kind, nums, l, e, want)
	}
}

// errs is orders that have to have an error, and to change nothing.
func (x *bench) errs(want api.Errno, l ...order) {
	x.t.Helper()
	sum, all := x.table.Sum(), x.table.Volumes()
	for _, o := range l {
		if nums, e := x.do(o); len(nums) != 0 || e != want {
			x.t.Errorf("Kind %d, Nums %d: %d, error %d, not %d", o.kind, o.nums, nums, e, want)
		}
		if x.table.Sum() != sum {
			x.t.Errorf("Kind %d, Nums %d: the Sum is another one", o.kind, o.nums)
		}
	}
	isVolumes(x.t, "behind errors", x.table.Volumes(), all)
}

// forms is bytes that are no command.
func (x *bench) forms(name string, b []byte) {
	x.t.Helper()
	if l, e := x.apply(name, b); len(l) != 0 || e != api.ErrForm {
		x.t.Errorf("%s: %d, error %d, not %d", name, l, e, api.ErrForm)
	}
}

// agrees asks for all that is told.
func (x *bench) agrees(name string) {
	x.t.Helper()
	for id := -1; id <= len(x.p.volumes)+1; id++ {
		x.isVolume(name, id)
	}
	x.isAll(name)
	if x.calls++; x.t.Failed() {
		x.t.Fatalf("behind %d calls", x.calls)
	}
}

// isVolume asks for a Volume.
func (x *bench) isVolume(name string, id int) {
	x.t.Helper()
	v, ok := x.table.Volume(id)
	if want, wantOk := x.p.volume(id); ok != wantOk || !alike(v, want) {
		x.t.Errorf("%s: Volume(%d) is %v, %t, not %v, %t", name, id, v, ok, want, wantOk)
	}
}

// isAll asks for Volumes and Sum.
func (x *bench) isAll(name string) {
	x.t.Helper()
	isVolumes(x.t, name, x.table.Volumes(), x.p.all())
	if s := x.table.Sum(); s != x.p.sum() {
		x.t.Errorf("%s: Sum is %08x, not %08x", name, s, x.p.sum())
	}
}

// alike tells whether two volumes are the same.
func alike(v, w api.Volume) bool {
	return v.ID == w.ID && v.State == w.State && v.Epoch == w.Epoch && v.Frozen == w.Frozen && v.Job == w.Job && slices.Equal(v.Nodes, w.Nodes)
}

// isVolumes asks for volumes.
func isVolumes(t *testing.T, name string, l, want []api.Volume) {
	t.Helper()
	if !slices.EqualFunc(l, want, alike) {
		t.Errorf("%s: volumes %v, not %v", name, l, want)
	}
}

// strange are numbers that are no id, no node and no state, far beyond all that there are, and such as are one of these in their lowest digits.
func strange() []int {
	return []int{64, 65, 127, 128, 255, 4097, 1<<31 - 1, 1 << 31, 1 << 32, 1<<32 + 1, 1<<32 + 3, 1 << 40, math.MaxInt - 1, math.MaxInt, -2, -3, -64, -1 << 31, -1 << 32, -1<<32 + 1, math.MinInt + 1, math.MinInt}
}

// up is numbers from one on, as many as n.
func up(from, n int) []int {
	var l []int
	for i := range n {
		l = append(l, from+i)
	}
	return l
}

// with is a list in which one number is another one.
func with(l []int, at, v int) []int {
	l = slices.Clone(l)
	l[at] = v
	return l
}

// told is a bench with its script.
type told struct {
	*bench
	d     drawn
	start int
	most  int         // volumes, from which on it rarely grows
	met   map[int]int // how often each Kind met each error: Kind times 100, and error
}

// script is a bench whose orders are drawn.
func script(t *testing.T, start int) *told {
	t.Helper()
	x := &told{bench: fresh(t), d: drawn(start), start: start, most: 2 + start%7, met: map[int]int{}}
	return x
}

// one is a drawn order that is done.
func (x *told) one() ([]int, api.Errno) {
	x.t.Helper()
	o := x.draw()
	l, e := x.do(o)
	x.met[o.kind*100+int(e)]++
	return l, e
}

// draw is an order: most are such as can be done, or nearly.
func (x *told) draw() order {
	id := x.id()
	switch n := x.d.below(100); {
	case n < 12 && (len(x.p.volumes) < x.most || x.d.isOnce(12)):
		return order{grow, x.nodes(1+x.d.below(5), 8)}
	case n < 45:
		return or(assign, id, int(x.d.next())>>x.d.below(64))
	case n < 55:
		return or(look, id)
	case n < 75:
		return x.changed(freeze, id)
	case n < 95:
		return x.changed(place, id)
	case n < 97:
		return or(nothing)
	}
	return order{x.d.below(9), x.nodes(x.d.below(6), 4)}
}

// id is one of a volume, or, rarely, of none.
func (x *told) id() int {
	if x.d.isOnce(25) {
		return slices.Concat(strange(), []int{0, -1, len(x.p.volumes) + 1})[x.d.below(25)]
	}
	return 1 + x.d.below(max(len(x.p.volumes), 1))
}

// nodes are n nodes below most; rarely one is none, or stands twice.
func (x *told) nodes(n, most int) []int {
	l := x.d.shuffled(up(0, max(n, most)))[:n]
	if n > 0 && x.d.isOnce(20) {
		l[x.d.below(n)] = slices.Concat(strange(), []int{-1, -1, 63, l[0]})[x.d.below(26)]
	}
	return l
}

// changed is a freeze or a place of a volume, mostly of its Epoch.
func (x *told) changed(kind, id int) order {
	v, _ := x.p.volume(id)
	epoch, state := v.Epoch, v.State
	if x.d.isOnce(10) {
		epoch += x.d.below(5) - 2
	}
	switch {
	case x.d.isOnce(25):
		state = x.d.below(5) - 1
	case x.d.isOnce(5):
		state++
	}
	nodes := x.nodes(1+x.d.below(6), 10)
	if kind == freeze && !x.d.isOnce(8) {
		nodes = x.fewer(v)
	}
	if state == api.Strips && kind == place || x.d.isOnce(25) {
		for i := range nodes {
			if x.d.isOnce(4) {
				nodes[i] = -1
			}
		}
	}
	return order{kind, slices.Concat([]int{id, epoch, state}, nodes)}
}

// fewer is a volume's nodes without some of them; of Strips, -1 for these.
func (x *told) fewer(v api.Volume) []int {
	if v.State != api.Strips {
		l := x.d.shuffled(v.Nodes)
		return l[:len(l)-x.d.below(len(l)+1)/2]
	}
	l := slices.Clone(v.Nodes)
	for i := range l {
		if x.d.isOnce(5) {
			l[i] = -1
		}
	}
	if x.d.isOnce(6) {
		l = x.d.shuffled(l)
	}
	return l
}

// add lays what one script met to what others did.
func (x *told) add(to map[int]int) {
	for k, n := range maps.All(x.met) {
		to[k] += n
	}
}
