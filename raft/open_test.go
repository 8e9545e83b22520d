package raft_test

import (
	"bytes"
	"encoding/binary"
	"math"
	"slices"
	"testing"

	"garner/api"
	"garner/disk"
	"garner/keep"
	"garner/raft"
)

// unchanged asks whether a disk has the same files as another one, as they stand and behind a Crash.
func unchanged(t *testing.T, name string, d, c *disk.Disk) {
	t.Helper()
	for range 2 {
		if !slices.Equal(d.List(), c.List()) {
			t.Errorf("%s: files %q, not %q", name, d.List(), c.List())
		}
		for _, file := range c.List() {
			b, _ := d.Read(file)
			if want, _ := c.Read(file); !bytes.Equal(b, want) {
				t.Errorf("%s: %q is %x, not %x", name, file, b, want)
			}
		}
		d, c = d.Copy(), c.Copy()
		d.Crash(0)
		c.Crash(0)
	}
}

// isRefused asks Open for an error, no node, and a disk that stays as it is.
func isRefused(t *testing.T, name string, id, n int, d *disk.Disk, want api.Errno) {
	t.Helper()
	c := d.Copy()
	if r, e := raft.Open(id, n, d, 0); r != nil || e != want {
		t.Errorf("%s: a node %t, error %d, not %d", name, r != nil, e, want)
	}
	unchanged(t, name, d, c)
}

// TestP16_1Example is the first example of the chapter.
func TestP16_1Example(t *testing.T) {
	d := made(t, 1000)
	r, e := raft.Open(0, 1, d, 0)
	if e != api.OK {
		t.Fatal(e)
	}
	for range 10 {
		if role, term, leader := r.State(); role != 0 || term != 0 || leader != -1 {
			t.Errorf("%d, %d, %d", role, term, leader)
		}
		are(t, "Tick", r.Tick(0))
	}
	if role, term, leader := r.State(); role != 2 || term != 1 || leader != 0 {
		t.Errorf("%d, %d, %d", role, term, leader)
	}
	isTaken(t, r.Take(), en(1, ""))
	isTaken(t, r.Take())
}

// TestP16_1Args is groups and nodes that there are, and that there are not; a disk that is none.
func TestP16_1Args(t *testing.T) {
	d := made(t, 1000)
	for _, n := range []int{1, 3, 5} {
		for id := range n {
			if r, e := raft.Open(id, n, d, 0); r == nil || e != api.OK {
				t.Errorf("%d of %d: error %d", id, n, e)
			}
			isRefused(t, "no disk", id, n, nil, api.ErrArg)
		}
		for _, id := range []int{-1, n, n + 1, math.MinInt, math.MaxInt} {
			isRefused(t, "no such node", id, n, d, api.ErrArg)
		}
	}
	for _, n := range []int{math.MinInt, -5, -3, -1, 0, 2, 4, 6, 7, 9, 1 << 32, 1<<32 + 1, math.MaxInt} {
		for _, id := range []int{-1, 0, 1, n - 1} {
			isRefused(t, "no such group", id, n, d, api.ErrArg)
		}
	}
	// Arguments come ahead of what the disk has.
	lay(t, d, "term", []byte("bad"))
	isRefused(t, "no such node", 3, 3, d, api.ErrArg)
	isRefused(t, "no such group", 0, 2, d, api.ErrArg)
}

// TestP16_1File is files of a term and a vote, such as are right and such as are not.
func TestP16_1File(t *testing.T) {
	big := binary.AppendUvarint(nil, math.MaxInt+1)
	for _, x := range []struct {
		name string
		file []byte
		want api.Errno
	}{
		{"no byte", nil, api.ErrShort},
		{"seven bytes", make([]byte, 7), api.ErrShort},
		{"a byte too few", framed(uv(3, 1))[:9], api.ErrShort},
		{"a byte too many", append(framed(uv(3, 1)), 0), api.ErrForm},
		{"two records", append(framed(uv(3, 1)), framed(uv(3, 1))...), api.ErrForm},
		{"a wrong sum", append(framed(uv(3, 1))[:8], 3, 2), api.ErrSum},
		{"a length above all", []byte{0, 16, 0, 1, 0, 0, 0, 0}, api.ErrLong},
		{"a record of nothing", framed(), api.ErrForm},
		{"no vote", framed(uv(3)), api.ErrForm},
		{"half a vote", framed(uv(3), []byte{0x80}), api.ErrForm},
		{"half a term", framed([]byte{0x80}), api.ErrForm},
		{"three numbers", framed(uv(3, 1, 0)), api.ErrForm},
		{"a vote for the node 3 of 3", framed(uv(3, 4)), api.ErrForm},
		{"a vote far beyond", framed(uv(3, 1<<32)), api.ErrForm},
		{"a vote beyond numbers", framed(uv(3), big), api.ErrForm},
		{"a term beyond numbers", framed(big, uv(0)), api.ErrForm},
		{"a term of ten full bytes", framed(bytes.Repeat([]byte{0xff}, 10), uv(0)), api.ErrForm},
		{"a term with a nought behind", framed([]byte{0x83, 0}, uv(1)), api.ErrForm},
		{"a vote with a nought behind", framed(uv(3), []byte{0x81, 0}), api.ErrForm},
	} {
		d := made(t, 1000)
		lay(t, d, "term", x.file)
		isRefused(t, x.name, 0, 3, d, x.want)
	}
	d := made(t, 1000)
	lay(t, d, "term", framed(uv(3, 2)))
	isRefused(t, "a vote for the node 1 of 1", 0, 1, d, api.ErrForm)
	for _, term := range []int{0, 1, 127, 128, 1 << 40, 1<<40 + 1, math.MaxInt} {
		for vote := -1; vote < 3; vote++ {
			x := in(t, 1, 3, -1, term, vote)
			x.is("Open", [5]int{follows, term, -1, 0, 0})
		}
	}
}

// TestP16_1Damaged is a file of which each byte is each other one: the error is chapter 9's.
func TestP16_1Damaged(t *testing.T) {
	whole := framed(uv(300, 2))
	for i := range whole {
		for by := 1; by < 256; by++ {
			d := made(t, 1000)
			lay(t, d, "term", whole)
			d.Rot("term", i, byte(by))
			_, want := keep.Load(d, "term")
			if want == api.OK {
				t.Fatalf("the byte %d by %d is no damage", i, by)
			}
			isRefused(t, "damaged", 0, 3, d, want)
		}
	}
}

// TestP16_1Log is logs whose entries are not as the chapter says.
func TestP16_1Log(t *testing.T) {
	one := framed(uv(1, 2), []byte("a"))
	big := binary.AppendUvarint(nil, math.MaxInt+1)
	for _, x := range []struct {
		name  string
		files map[string][]byte
	}{
		{"no term", map[string][]byte{"log.00000001": framed(uv(1))}},
		{"no term in the second", map[string][]byte{"log.00000001": append(bytes.Clone(one), framed(uv(2))...)}},
		{"half a term", map[string][]byte{"log.00000001": framed(uv(1), []byte{0x80})}},
		{"a term with a nought behind", map[string][]byte{"log.00000001": framed(uv(1), []byte{0x82, 0})}},
		{"a term beyond numbers", map[string][]byte{"log.00000001": framed(uv(1), big)}},
		{"begins with 2", map[string][]byte{"log.00000002": framed(uv(2, 2))}},
		{"begins with 2, and is torn", map[string][]byte{"log.00000002": append(framed(uv(2, 2)), 1, 2, 3)}},
		{"is to begin with 5", map[string][]byte{"log.00000005": nil}},
		{"no term, and is torn", map[string][]byte{"log.00000001": append(framed(uv(1)), one[:5]...), "log.00000009": one}},
	} {
		d := made(t, 1000)
		for name, b := range x.files {
			lay(t, d, name, b)
		}
		isRefused(t, x.name, 0, 3, d, api.ErrForm)
		lay(t, d, "term", framed(uv(1, 1, 1)))
		isRefused(t, x.name+" and so is the term", 0, 3, d, api.ErrForm)
		lay(t, d, "term", framed(uv(1, 1))[:9])
		isRefused(t, x.name+" and the term is short", 0, 3, d, api.ErrShort)
		lay(t, d, "term", framed(uv(1, 1)))
		isRefused(t, x.name+" and the term is right", 0, 3, d, api.ErrForm)
	}
}

// TestP16_1Torn is logs whose end is torn, or that have an entry's record damaged: what is ahead of it is there.
func TestP16_1Torn(t *testing.T) {
	l := []api.Entry{en(1, ""), en(2, string(row(700, 1))), en(2, string(row(700, 2))), en(3, "c"), en(3, "d")}
	whole := logged(l)
	if len(whole) != 2 {
		t.Fatal("not two segments")
	}
	second := whole["log.00000004"]
	for cut := range second {
		x := in(t, 0, 3, -1, 3, -1, l...)
		if e := x.d.Cut("log.00000004", cut); e != api.OK {
			t.Fatal(e)
		}
		x.p.log = l[:3]
		if cut >= len(second)/2 {
			x.p.log = l[:4]
		}
		c := x.d.Copy()
		r, e := raft.Open(0, 3, c, 0)
		if e != api.OK {
			t.Fatalf("cut at %d: error %d", cut, e)
		}
		if last, committed := r.Log(); last != len(x.p.log) || committed != 0 {
			t.Errorf("cut at %d: Log is %d, %d", cut, last, committed)
		}
		if cut == 0 {
			// Chapter 10 keeps a segment without a byte.
			continue
		}
		x.open(0)
		x.ticks(9, 0)
	}
	x := in(t, 0, 3, -1, 3, -1, l...)
	x.d.Rot("log.00000001", 40, 1)
	x.p.log = l[:1]
	x.open(9)
	are(t, "asks", x.ticks(18, 0), msg(0, 1, asks, nil, 4, 1, 1), msg(0, 2, asks, nil, 4, 1, 1))
}

// TestP16_1Fresh is what a node is behind Open: a follower that knows of no leader and of nothing that is agreed upon.
func TestP16_1Fresh(t *testing.T) {
	x := fresh(t, 2, 5, 1000, 0)
	x.is("an empty disk", [5]int{0, 0, -1, 0, 0})
	x = in(t, 2, 5, -1, 7, 2, en(1, "a"), en(7, "b"))
	x.is("a disk of one that voted for itself", [5]int{0, 7, -1, 2, 0})
	isTaken(t, x.take())
	// An entry of a later term than the file's is read: no word of the chapter rules it out.
	x = in(t, 2, 5, -1, 0, -1, en(9, ""), en(4, ""))
	x.is("a log of later terms", [5]int{0, 0, -1, 2, 0})
	are(t, "its first Tick of an election", x.ticks(9, 0), msg(2, 0, asks, nil, 1, 2, 4), msg(2, 1, asks, nil, 1, 2, 4), msg(2, 3, asks, nil, 1, 2, 4), msg(2, 4, asks, nil, 1, 2, 4))
}

// TestP16_1Others is files on the disk that are none of the node's: they stay, and say nothing.
func TestP16_1Others(t *testing.T) {
	x := fresh(t, 0, 1, 5000, 0)
	x.p.others = map[string][]byte{}
	for i, name := range []string{"a", "log", "log.1", "logs.00000001", "log.0000000a", "terms", "ter", "log.00000001.", "v00000001.dat"} {
		x.p.others[name] = row(20+i, i)
		lay(t, x.d, name, x.p.others[name])
	}
	x.open(0)
	x.ticks(9, 0)
	x.propose([]byte("x"))
	x.crash(0)
	x.ticks(9, 0)
	isTaken(t, x.take(), en(1, ""), en(1, "x"), en(2, ""))
	x.crash(0)
	x.ticks(8, 0)
	// What a Save left that did not end is in nobody's way.
	lay(t, x.d, "term~", row(50, 1))
	x.tick(0)
	x.is("it is gone", [5]int{leads, 3, 0, 4, 4})
}

// TestP16_1Waits is how many Ticks a draw makes a node wait.
func TestP16_1Waits(t *testing.T) {
	for draw, wait := range waits() {
		x := fresh(t, 0, 3, 1000, draw)
		are(t, "the last Tick", x.ticks(wait-1, 0), msg(0, 1, asks, nil, 1, 0, 0), msg(0, 2, asks, nil, 1, 0, 0))
	}
}

// waits is by draws how many Ticks they make a node wait.
func waits() map[int]int {
	return map[int]int{0: 10, 1: 11, 8: 18, 9: 19, 10: 10, 19: 19, 20: 10, 1234567: 17, -1: 10, -9: 10, -15: 10, math.MinInt: 10, math.MaxInt: 17, math.MaxInt - 7: 10, math.MaxInt - 8: 19}
}

// TestP16_1Lasts is a log that others laid and did not Sync: what the node tells of it lasts.
func TestP16_1Lasts(t *testing.T) {
	x := fresh(t, 0, 3, 1000, 0)
	x.p.log = []api.Entry{en(1, "a"), en(1, "b")}
	for name, b := range x.p.files() {
		x.d.Append(name, b)
	}
	x.open(0)
	are(t, "entries that are there", x.hear(msg(1, 0, entries, packed(en(1, "b")), 1, 1, 1, 2), 0), msg(0, 1, took, nil, 1, 1, 2))
	x.crash(0)
	x.is("a Crash", [5]int{0, 1, -1, 2, 0})
}
