package fsm_test

import (
	"encoding/binary"
	"fmt"
	"math"
	"slices"
	"testing"

	"garner/api"
)

// right is an order of each Kind that is done by a table with one volume of the nodes 3 and 4, or that was frozen once.
func right() []order {
	return []order{or(nothing), or(grow, 3, 4), or(assign, 1, 9), or(look, 1), or(freeze, 1, 1, 0, 4), or(place, 1, 2, 0, 4, 5)}
}

// msg is the message of an order.
func (o order) msg() api.Msg { return api.Msg{Kind: o.kind, Nums: o.nums} }

// ready is a bench that would do each of those orders, but the last one: that it does behind the freeze.
func ready(t *testing.T) *bench { return grown(t, []int{3, 4}) }

// TestP18_2Right is that all of those are done: so the faults below are the only ones.
func TestP18_2Right(t *testing.T) {
	x := ready(t)
	x.gives(nil, nothing)
	x.gives([]int{2}, grow, 3, 4)
	x.gives([]int{1, 1, cookie(1, 1, 9), 1, 3, 4}, assign, 1, 9)
	x.gives([]int{1, 0, 1, 0, 3, 4}, look, 1)
	x.gives([]int{2}, freeze, 1, 1, 0, 4)
	x.gives([]int{3}, place, 1, 2, 0, 4, 5)
}

// TestP18_2Bytes is bytes that chapter 3 refuses: cut, changed, none at all.
func TestP18_2Bytes(t *testing.T) {
	x := ready(t)
	x.forms("nothing", nil)
	x.forms("nothing", []byte{})
	for _, o := range right() {
		b := o.bytes()
		for i := range b {
			x.forms("a command that is cut", b[:i])
			x.forms("a command without its beginning", b[i+1:])
			for _, v := range []byte{1, 2, 0x10, 0x80, 0xff} {
				c := slices.Clone(b)
				c[i] ^= v
				x.forms("a command with another byte", c)
			}
		}
	}
	for _, n := range []int{1, 7, 8, 9, 100, 5000} {
		x.forms("noughts", make([]byte, n))
		x.forms("ones", slices.Repeat([]byte{0xff}, n))
	}
}

// TestP18_2Behind is commands with something behind.
func TestP18_2Behind(t *testing.T) {
	x := ready(t)
	for _, o := range right() {
		for _, behind := range [][]byte{{0}, {1}, {0xff}, make([]byte, 8), framed(nil), o.bytes(), or(nothing).bytes()} {
			x.forms("something is behind", slices.Concat(o.bytes(), behind))
			if !slices.Equal(behind, o.bytes()) {
				x.forms("something is ahead", slices.Concat(behind, o.bytes()))
			}
		}
	}
}

// TestP18_2Records is records with a right sum whose bytes are no message.
func TestP18_2Records(t *testing.T) {
	x := ready(t)
	for _, o := range right() {
		p := o.bytes()[8:]
		for i := range p {
			x.forms("a record that is cut", framed(p[:i]))
			for _, v := range []byte{1, 2, 0x10, 0x80, 0xff} {
				c := slices.Clone(p)
				c[i] ^= v
				// Some of these are a command, but another one: paper knows.
				b := framed(c)
				if l, ok := parsed(b); !ok || l.From != 0 || l.To != 0 || len(l.Data) != 0 {
					x.forms("a record with another byte", b)
				}
			}
			// Noughts ahead of a number, that has a byte more than it needs.
			x.forms("a number that is too long", framed(slices.Concat(p[:i], []byte{p[i] | 0x80, 0}, p[i+1:])))
		}
		for _, more := range [][]byte{{0}, {1}, {0, 0}, p} {
			x.forms("a record with something behind the message", framed(slices.Concat(p, more)))
		}
	}
	x.forms("a record of nothing", framed(nil))
	x.forms("too many Nums", record(api.Msg{Kind: grow, Nums: make([]int, 65)}))
	x.forms("a great number of Nums", framed(slices.Concat([]byte{0, 0, grow}, binary.AppendUvarint(nil, math.MaxUint64), []byte{0})))
	x.forms("a great From", framed(slices.Concat(binary.AppendUvarint(nil, 1<<31), []byte{0, 1, 0, 0})))
}

// TestP18_2Message is messages of nodes: with a From or a To, or with Data.
func TestP18_2Message(t *testing.T) {
	x := ready(t)
	for _, o := range right() {
		for _, n := range []int{1, 2, 63, 64, 128, 1<<31 - 1} {
			m := o.msg()
			m.From = n
			x.forms(fmt.Sprintf("From %d", n), record(m))
			m.To = n
			x.forms(fmt.Sprintf("From and To %d", n), record(m))
			m.From = 0
			x.forms(fmt.Sprintf("To %d", n), record(m))
		}
		for _, data := range [][]byte{{0}, {1}, []byte("data"), make([]byte, 1000), make([]byte, api.MaxFrame-1024)} {
			m := o.msg()
			m.Data = data
			x.forms(fmt.Sprintf("%d bytes of Data", len(data)), record(m))
		}
	}
}

// TestP18_2Kinds is Kinds that are none, whatever Nums there are.
func TestP18_2Kinds(t *testing.T) {
	x := ready(t)
	for _, o := range right() {
		for _, kind := range []int{0, 7, 8, 9, 24, 50, 127, 128, 129, 256, 257, 258, 1<<16 + 1, 1<<31 - 1, 1 << 31, 1<<32 + 1, -1, -2, -6, math.MinInt, math.MinInt + 1} {
			x.forms(fmt.Sprintf("Kind %d", kind), order{kind, o.nums}.bytes())
		}
	}
}

// TestP18_2Nums is each Kind with each number of Nums. Of grow none, and of freeze and place three, are no fault of form but of their nodes.
func TestP18_2Nums(t *testing.T) {
	least, most := []int{0, 0, 0, 2, 1, 3, 3}, []int{0, 0, 64, 2, 1, 64, 64}
	for kind := 1; kind <= 6; kind++ {
		for n := range 65 {
			for _, v := range []int{0, 1, -1, 7} {
				x := ready(t)
				o := order{kind, slices.Repeat([]int{v}, n)}
				_, e := x.do(o)
				if (e == api.ErrForm) != (n < least[kind] || n > most[kind]) {
					t.Errorf("Kind %d, %d Nums %d: error %d", kind, n, v, e)
				}
			}
		}
	}
	x := ready(t)
	x.errs(api.ErrArg, or(grow), or(freeze, 1, 1, 0))
	x.errs(api.ErrEpoch, or(place, 1, 1, 0))
	x.errs(api.ErrForm, or(nothing, 0), or(nothing, 1), or(assign), or(assign, 1), or(assign, 1, 9, 9), or(look), or(look, 1, 1), or(freeze), or(freeze, 1), or(freeze, 1, 1), or(place), or(place, 1), or(place, 1, 1))
	// Ahead of what there is: also of volumes that are none.
	x.errs(api.ErrForm, or(assign, 7), or(assign, 7, 7, 7), or(look, 7, 7), or(freeze, 7, 1), or(place, 7, 1))
	x.gives([]int{2}, freeze, 1, 1, 0, 3)
	x.errs(api.ErrArg, or(place, 1, 2, 0))
}

// TestP18_2Drawn is bytes of which some are commands, and some nearly.
func TestP18_2Drawn(t *testing.T) {
	d := drawn(7)
	forms, done := 0, 0
	x := ready(t)
	for range 20000 {
		o := right()[d.below(6)]
		m := o.msg()
		for i := range m.Nums {
			if d.isOnce(3) {
				m.Nums[i] = d.below(7) - 2
			}
		}
		b := record(m)
		p := b[8:]
		switch d.below(4) {
		case 0:
			p[d.below(len(p))] = byte(d.below(8))
		case 1:
			at := d.below(len(p) + 1)
			p = slices.Concat(p[:at], []byte{byte(d.next()) >> d.below(8)}, p[at:])
		case 2:
			b[d.below(len(b))] ^= byte(d.below(4))
		}
		if !d.isOnce(4) {
			b = framed(p)
		}
		if _, e := x.apply(fmt.Sprintf("%x", b), b); e == api.ErrForm {
			forms++
		} else if e == api.OK {
			done++
		}
		if len(x.p.volumes) > 12 {
			x = ready(t)
		}
	}
	if forms < 2000 || done < 2000 {
		t.Errorf("%d were none, and %d were done", forms, done)
	}
}
