package raft_test

import (
	"bytes"
	"encoding/binary"
	"math"
	"slices"
	"testing"

	"garner/api"
)

// right is a message of each Kind, that a follower, a candidate or a leader of the term 5 would do something with.
func right() []api.Msg {
	return []api.Msg{
		msg(2, 1, asks, nil, 9, 9, 9),
		msg(2, 1, votes, nil, 9, 1),
		msg(2, 1, entries, packed(en(9, "x")), 9, 1, 4, 0),
		msg(2, 1, took, nil, 9, 1, 1),
		msg(2, 1, asks, nil, 5, 9, 9),
		msg(2, 1, votes, nil, 5, 1),
		msg(2, 1, entries, packed(en(5, "x")), 5, 1, 4, 0),
		msg(2, 1, took, nil, 5, 1, 1),
	}
}

// wrong is messages to the node 1 of 3 that none sends.
func wrong() []api.Msg {
	var l []api.Msg
	for _, m := range right() {
		for _, to := range []int{-1, 0, 2, 3, math.MinInt, math.MaxInt, 1<<32 + 1} {
			l = append(l, api.Msg{From: m.From, To: to, Kind: m.Kind, Nums: m.Nums, Data: m.Data})
		}
		for _, from := range []int{1, -1, 3, 4, 5, 64, math.MinInt, math.MaxInt, 1 << 32} {
			l = append(l, api.Msg{From: from, To: 1, Kind: m.Kind, Nums: m.Nums, Data: m.Data})
		}
		for _, kind := range []int{0, 5, -1, 6, 50, math.MinInt, math.MaxInt, m.Kind + 1<<32} {
			l = append(l, api.Msg{From: 2, To: 1, Kind: kind, Nums: m.Nums, Data: m.Data})
		}
		for n := range m.Nums {
			l = append(l, msg(2, 1, m.Kind, m.Data, m.Nums[:n]...))
			for _, v := range []int{-1, 1<<40 + 1, math.MinInt, math.MaxInt} {
				nums := slices.Clone(m.Nums)
				nums[n] = v
				l = append(l, msg(2, 1, m.Kind, m.Data, nums...))
			}
		}
		l = append(l, msg(2, 1, m.Kind, m.Data, slices.Concat(m.Nums, []int{0})...), msg(2, 1, m.Kind, m.Data, slices.Repeat(m.Nums, 30)...))
		if m.Kind == votes || m.Kind == took {
			for _, v := range []int{2, 3, 1 << 40} {
				nums := slices.Clone(m.Nums)
				nums[1] = v
				l = append(l, msg(2, 1, m.Kind, nil, nums...))
			}
		}
		for _, data := range wrongData() {
			l = append(l, msg(2, 1, m.Kind, data, m.Nums...))
		}
		if m.Kind != entries {
			l = append(l, msg(2, 1, m.Kind, []byte{0}, m.Nums...), msg(2, 1, m.Kind, packed(en(1, "a")), m.Nums...))
		}
	}
	return l
}

// wrongData is bytes that are no entries.
func wrongData() [][]byte {
	huge := binary.AppendUvarint(nil, math.MaxUint64)
	return [][]byte{
		{0},
		{0x80},
		{0x80, 0x80},
		uv(1 << 40),
		{1, 0x80},
		{1, 1},
		{1, 2, 'a'},
		{1, 0x81, 0, 'a'},
		{0x81, 0, 1, 'a'},
		slices.Concat(uv(1<<40+1), []byte{1, 'a'}),
		slices.Concat(uv(math.MaxInt), []byte{1, 'a'}),
		slices.Concat(huge, []byte{1, 'a'}),
		slices.Concat([]byte{1}, huge, []byte("a")),
		slices.Concat(uv(1, math.MaxInt), []byte("a")),
		slices.Concat(uv(1, 1<<32+1), []byte("a")),
		slices.Concat(bytes.Repeat([]byte{0xff}, 10), []byte{1, 'a'}),
		slices.Concat(packed(en(1, "a"), en(1, "bc")), []byte{0}),
		slices.Concat(packed(en(1, "a")), []byte{1, 3, 'b', 'c'}),
		packed(en(1, "a"), en(1, "bc"))[:6],
		packed(terms(1, 1, 1, 1, 1, 1, 1, 1, 1)...),
		slices.Concat(packed(terms(1, 1, 1, 1, 1, 1, 1, 1)...), []byte{0}),
		packed(slices.Repeat(terms(3), 300)...),
	}
}

// asRoles is the node 1 of 3 as a follower, a candidate and a leader of the term 5.
func asRoles(t *testing.T) []*bench {
	t.Helper()
	f := in(t, 1, 3, -1, 5, -1, en(4, "a"))
	c := in(t, 1, 3, -1, 4, -1, en(4, "a"))
	c.ticks(9, 0)
	return []*bench{f, c, elected(t, 1, 3, 4, en(4, "a"))}
}

// TestP16_3Wrong is messages that are none: nothing is sent, and nothing is another way than before, not even how long it waits.
func TestP16_3Wrong(t *testing.T) {
	for _, m := range wrong() {
		for role, x := range asRoles(t) {
			x.tick(0)
			before := x.d.Copy()
			are(t, "nothing", x.r.Hear(m, 9))
			x.agrees("nothing")
			unchanged(t, "nothing", x.d, before)
			left := 9
			if role == leads {
				left = 2
			}
			if x.ticks(left-1, 0); t.Failed() {
				t.Fatalf("role %d: %s", role, short(m))
			}
		}
	}
}

// TestP16_3Right is the messages that the wrong ones are made of: of each something happens.
func TestP16_3Right(t *testing.T) {
	for _, m := range right() {
		happens := 0
		for _, x := range asRoles(t) {
			role, term, leader := x.r.State()
			l := x.hear(m, 0)
			if r, n, k := x.r.State(); len(l) > 0 || r != role || n != term || k != leader {
				happens++
			}
		}
		if happens == 0 {
			t.Errorf("of %v nothing happens", m)
		}
	}
}

// TestP16_3Alone is one node alone: there is no other one that it could hear.
func TestP16_3Alone(t *testing.T) {
	x := fresh(t, 0, 1, 1000, 0)
	for from := -2; from < 7; from++ {
		for _, m := range right() {
			are(t, "alone", x.hear(api.Msg{From: from, To: 0, Kind: m.Kind, Nums: m.Nums, Data: m.Data}, 0))
		}
	}
	x.is("alone", [5]int{follows, 0, -1, 0, 0})
}

// TestP16_3Bytes is entries' bytes of which each one is each other one: what happens is as on paper.
func TestP16_3Bytes(t *testing.T) {
	whole := packed(en(4, "a"), en(300, "bc"), en(5, ""))
	for i := range whole {
		for c := range 256 {
			data := bytes.Clone(whole)
			data[i] = byte(c)
			in(t, 1, 3, -1, 5, -1).hear(msg(0, 1, entries, data, 5, 0, 0, 9), 0)
		}
		in(t, 1, 3, -1, 5, -1).hear(msg(0, 1, entries, whole[:i], 5, 0, 0, 9), 0)
		if t.Failed() {
			t.Fatalf("the byte %d", i)
		}
	}
}

// TestP16_3Greatest is terms and numbers 0 and 2^40, that are told and that are heard.
func TestP16_3Greatest(t *testing.T) {
	for _, m := range []api.Msg{
		msg(2, 1, asks, nil, 0, 0, 0),
		msg(2, 1, asks, nil, 1<<40, 0, 0),
		msg(2, 1, asks, nil, 1<<40, 1<<40, 1<<40),
		msg(2, 1, votes, nil, 0, 0),
		msg(2, 1, votes, nil, 1<<40, 1),
		msg(2, 1, entries, nil, 0, 0, 0, 0),
		msg(2, 1, entries, packed(en(0, ""), en(1<<40, "x")), 1<<40, 0, 0, 1<<40),
		msg(2, 1, entries, nil, 1<<40, 1<<40, 1<<40, 1<<40),
		msg(2, 1, took, nil, 0, 0, 0),
		msg(2, 1, took, nil, 1<<40, 1, 1<<40),
	} {
		for _, x := range asRoles(t) {
			x.hear(m, 0)
			if _, term, _ := x.r.State(); term != max(5, m.Nums[0]) {
				t.Errorf("%v: the term is %d", m, term)
			}
		}
	}
}
