package fsm_test

import (
	"bytes"
	"encoding/binary"
	"hash/crc32"
	"slices"

	"garner/api"
)

// Kinds of commands, as the chapter numbers them.
const (
	nothing = 1
	grow    = 2
	assign  = 3
	look    = 4
	freeze  = 5
	place   = 6
)

// drawn are numbers that look drawn and are the same each time; another start gives others.
type drawn uint64

func (x *drawn) next() uint64 {
	*x = *x*6364136223846793005 + 1442695040888963407
	v := uint64(*x)
	v ^= v >> 33
	v *= 0xff51afd7ed558ccd
	return v ^ v>>33
}

// below is a number from 0 to n - 1.
func (x *drawn) below(n int) int { return int(x.next() % uint64(n)) }

// isOnce is true once in n times.
func (x *drawn) isOnce(n int) bool { return x.below(n) == 0 }

// shuffled is a list in another order.
func (x *drawn) shuffled(l []int) []int {
	l = slices.Clone(l)
	for i := range l {
		j := i + x.below(len(l)-i)
		l[i], l[j] = l[j], l[i]
	}
	return l
}

// order is a command: Kind and Nums.
type order struct {
	kind int
	nums []int
}

// or is an order.
func or(kind int, nums ...int) order { return order{kind, nums} }

// record is chapter 3's bytes of a message, whatever it is.
func record(m api.Msg) []byte {
	var p []byte
	for _, v := range []int{m.From, m.To, m.Kind, len(m.Nums)} {
		p = binary.AppendUvarint(p, uint64(v))
	}
	for _, v := range m.Nums {
		p = binary.AppendVarint(p, int64(v))
	}
	p = binary.AppendUvarint(p, uint64(len(m.Data)))
	return framed(append(p, m.Data...))
}

// framed is chapter 2's record of bytes.
func framed(p []byte) []byte {
	b := binary.BigEndian.AppendUint32(nil, uint32(len(p)))
	sum := crc32.ChecksumIEEE(slices.Concat(b, p))
	return append(binary.BigEndian.AppendUint32(b, sum), p...)
}

// bytes is an order's record.
func (o order) bytes() []byte { return record(api.Msg{Kind: o.kind, Nums: o.nums}) }

// parsed is the message of which bytes are the record, if they are one: all of them, and just so.
func parsed(b []byte) (api.Msg, bool) {
	var m api.Msg
	rest := b[min(8, len(b)):]
	number := func() uint64 {
		v, n := binary.Uvarint(rest)
		if n <= 0 {
			rest = nil
			return 0
		}
		rest = rest[n:]
		return v
	}
	m.From, m.To, m.Kind = int(number()), int(number()), int(number())
	count := number()
	if m.From < 0 || m.To < 0 || m.Kind < 0 || max(m.From, m.To, m.Kind) > 1<<31-1 || count > api.MaxNums {
		return api.Msg{}, false
	}
	for range count {
		v := number()
		n := int(v >> 1)
		if v&1 == 1 {
			n = -n - 1
		}
		m.Nums = append(m.Nums, n)
	}
	number()
	m.Data = rest
	// Of bytes that are none something is read too, but its record is another one.
	return m, len(rest) <= api.MaxFrame-1024 && bytes.Equal(record(m), b)
}

// sheet is a volume as the chapter's words have it.
type sheet struct {
	state, epoch int
	nodes        []int
	frozen       bool
	next         int
}

// paper is a table as the chapter's words have it.
type paper struct {
	volumes map[int]*sheet
}

// fault is an error, and whether it is one here.
type fault struct {
	is bool
	e  api.Errno
}

// first is the error that is named first, of those that are.
func first(l ...fault) api.Errno {
	for _, f := range l {
		if f.is {
			return f.e
		}
	}
	return api.OK
}

// apply is an Apply.
func (p *paper) apply(b []byte) ([]int, api.Errno) {
	m, ok := parsed(b)
	if !ok || m.From != 0 || m.To != 0 || len(m.Data) != 0 {
		return nil, api.ErrForm
	}
	return p.does(order{m.Kind, m.Nums})
}

// does is an order that is done.
func (p *paper) does(o order) ([]int, api.Errno) {
	least, most := map[int]int{1: 0, 2: 0, 3: 2, 4: 1, 5: 3, 6: 3}, map[int]int{1: 0, 2: 64, 3: 2, 4: 1, 5: 64, 6: 64}
	if o.kind < 1 || o.kind > 6 || len(o.nums) < least[o.kind] || len(o.nums) > most[o.kind] {
		return nil, api.ErrForm
	}
	switch o.kind {
	case nothing:
		return nil, api.OK
	case grow:
		return p.grow(o.nums)
	case assign:
		return p.assign(o.nums[0], o.nums[1])
	case look:
		v := p.volumes[o.nums[0]]
		if v == nil {
			return nil, api.ErrNone
		}
		return slices.Concat([]int{o.nums[0], v.state, v.epoch, one(v.frozen)}, v.nodes), api.OK
	}
	return p.change(o.kind, o.nums[0], o.nums[1], o.nums[2], o.nums[3:])
}

// grow is a new volume.
func (p *paper) grow(nodes []int) ([]int, api.Errno) {
	e := first(
		fault{len(nodes) == 0 || slices.ContainsFunc(nodes, isNone) || isTwice(nodes), api.ErrArg},
		fault{len(p.volumes) == 4096, api.ErrEnd})
	if e != api.OK {
		return nil, e
	}
	id := len(p.volumes) + 1
	p.volumes[id] = &sheet{epoch: 1, nodes: slices.Clone(nodes), next: 1}
	return []int{id}, api.OK
}

// assign is a volume's next key.
func (p *paper) assign(id, salt int) ([]int, api.Errno) {
	v := p.volumes[id]
	if v == nil {
		return nil, api.ErrNone
	}
	e := first(
		fault{v.state != 0, api.ErrShut},
		fault{v.frozen, api.ErrEpoch},
		fault{v.next > 1099511627776, api.ErrEnd})
	if e != api.OK {
		return nil, e
	}
	key := v.next
	v.next = key + 1
	return slices.Concat([]int{id, key, cookie(id, key, salt), v.epoch}, v.nodes), api.OK
}

// change is a freeze or a place.
func (p *paper) change(kind, id, epoch, state int, nodes []int) ([]int, api.Errno) {
	v := p.volumes[id]
	if v == nil {
		return nil, api.ErrNone
	}
	got := slices.DeleteFunc(slices.Clone(nodes), func(n int) bool { return n == -1 })
	e := first(
		fault{epoch != v.epoch, api.ErrEpoch},
		fault{kind == place && !v.frozen, api.ErrEpoch},
		fault{v.epoch > 2147483646, api.ErrEnd},
		fault{state < 0 || state > 2, api.ErrArg},
		fault{state < v.state, api.ErrArg},
		fault{len(got) == 0, api.ErrArg},
		fault{slices.ContainsFunc(got, isNone), api.ErrArg},
		fault{isTwice(got), api.ErrArg},
		fault{state != 2 && len(got) < len(nodes), api.ErrArg},
		fault{kind == freeze && !v.mayFreeze(state, nodes), api.ErrArg})
	if e != api.OK {
		return nil, e
	}
	v.frozen = kind == freeze
	v.epoch, v.state, v.nodes = v.epoch+1, state, slices.Clone(nodes)
	return []int{v.epoch}, api.OK
}

// mayFreeze is what a freeze asks beside what a place asks.
func (v *sheet) mayFreeze(state int, nodes []int) bool {
	if state != v.state && !(v.state == 0 && state == 1) {
		return false
	}
	for i, n := range nodes {
		at := slices.Index(v.nodes, n)
		if n != -1 && (at < 0 || v.state == 2 && at != i) {
			return false
		}
	}
	return true
}

// isNone tells whether a number is no node: -1 is none too.
func isNone(n int) bool { return n < 0 || n > 63 }

// isTwice tells whether one stands twice.
func isTwice(l []int) bool {
	l = slices.Sorted(slices.Values(l))
	return len(slices.Compact(slices.Clone(l))) < len(l)
}

// one is 1 for true, else 0.
func one(b bool) int {
	if b {
		return 1
	}
	return 0
}

// cookie is chapter 15's.
func cookie(volume, key, salt int) int {
	const all = 1 << 32
	x := uint64(uint32(salt)) ^ uint64(volume)
	for i := range 4 {
		x = (x*32%all + x>>27) ^ uint64(key)>>(16*i)%all
		x = x * 2654435769 % all
	}
	return int(x)
}

// volume is a Volume.
func (p *paper) volume(id int) (api.Volume, bool) {
	v := p.volumes[id]
	if v == nil {
		return api.Volume{}, false
	}
	return api.Volume{ID: id, State: v.state, Epoch: v.epoch, Nodes: slices.Clone(v.nodes), Frozen: v.frozen}, true
}

// all is a Volumes.
func (p *paper) all() []api.Volume {
	var l []api.Volume
	for id := 1; id <= len(p.volumes); id++ {
		v, _ := p.volume(id)
		l = append(l, v)
	}
	return l
}

// sum is a Sum.
func (p *paper) sum() uint32 {
	var b []byte
	for id := 1; id <= len(p.volumes); id++ {
		v := p.volumes[id]
		l := []int{id, v.state, v.epoch, one(v.frozen), len(v.nodes)}
		for _, n := range v.nodes {
			l = append(l, n+1)
		}
		for _, n := range append(l, v.next) {
			b = binary.AppendUvarint(b, uint64(n))
		}
	}
	return crc32.ChecksumIEEE(b)
}
