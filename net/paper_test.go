package net_test

import (
	"bytes"
	"fmt"
	"math"
	"slices"
	"testing"

	"garner/api"
	"garner/net"
)

// paper is a net as the chapter's words have it, a list that is gone through from its first message on: what the package's own one is held against.
type paper []api.Msg

// send is Send.
func (p *paper) send(m api.Msg) bool {
	if len(*p) >= api.MaxFlight {
		return false
	}
	*p = append(*p, copyOf(m))
	return true
}

// at is At.
func (p *paper) at(i int) (api.Msg, bool) {
	for at, m := range *p {
		if at == i {
			return copyOf(m), true
		}
	}
	return api.Msg{}, false
}

// take is Take.
func (p *paper) take(i int) (api.Msg, bool) {
	m, ok := p.at(i)
	var l paper
	for at, other := range *p {
		if at != i {
			l = append(l, other)
		}
	}
	*p = l
	return m, ok
}

// twice is Twice.
func (p *paper) twice(i int) bool {
	m, ok := p.at(i)
	return ok && p.send(m)
}

// drop is Drop.
func (p *paper) drop(node int) int {
	var l paper
	for _, m := range *p {
		if m.From != node && m.To != node {
			l = append(l, m)
		}
	}
	n := len(*p) - len(l)
	*p = l
	return n
}

// copyOf is a message that shares no memory.
func copyOf(m api.Msg) api.Msg {
	m.Nums = slices.Clone(m.Nums)
	m.Data = bytes.Clone(m.Data)
	return m
}

// same tells whether two messages are alike; a nil list and an empty one are.
func same(a, b api.Msg) bool {
	return a.From == b.From && a.To == b.To && a.Kind == b.Kind && slices.Equal(a.Nums, b.Nums) && bytes.Equal(a.Data, b.Data)
}

// from is a message between two nodes; its kind tells it from others.
func from(from, to, kind int) api.Msg {
	return api.Msg{From: from, To: to, Kind: kind, Nums: []int{kind, from, to}, Data: []byte{byte(kind), byte(from), byte(to)}}
}

// small are messages of every kind: without lists, with either, with both; numbers around 0 and at both ends of their type; two that are alike.
func small() []api.Msg {
	return []api.Msg{
		{},
		{From: 1, To: 2, Kind: 3, Nums: []int{-1, 300}, Data: []byte("ab")},
		{From: 1, To: 2, Kind: 3, Nums: []int{-1, 300}, Data: []byte("ab")},
		{From: 2, To: 1, Kind: 3, Nums: []int{0}},
		{From: 1, To: 1, Data: []byte{0}},
		{Nums: []int{}, Data: []byte{}},
		{From: -1, To: -2, Kind: -3, Nums: []int{math.MinInt, -1, 0, 1, math.MaxInt}, Data: []byte{0x00, 0x7f, 0x80, 0xff}},
		{From: math.MaxInt, To: math.MinInt, Kind: math.MaxInt},
		{From: math.MinInt, To: math.MaxInt, Kind: math.MinInt},
		{From: 1 << 32, To: 1<<32 + 1, Kind: 1 << 31, Nums: []int{1 << 32, -1 << 31}},
	}
}

// kinds are small ones, and some with more in their lists than a record could hold.
func kinds() []api.Msg {
	return append(small(),
		api.Msg{From: api.MaxNodes, To: api.MaxNodes + 1, Kind: 255, Nums: slices.Repeat([]int{7, -7}, api.MaxNums)},
		api.Msg{From: 5, To: 6, Kind: 256, Data: bytes.Repeat([]byte{1, 2, 3}, 5000)},
		api.Msg{From: 6, To: 5, Kind: 65536, Nums: make([]int, 1000), Data: make([]byte, api.MaxFrame+1)})
}

// laid is a net with messages, and the same on paper.
func laid(t *testing.T, l ...api.Msg) (*net.Net, *paper) {
	t.Helper()
	n, p := &net.Net{}, &paper{}
	for _, m := range l {
		if !n.Send(m) || !p.send(m) {
			t.Fatalf("%d of %d messages", n.Len(), len(l))
		}
	}
	return n, p
}

// many are so many messages; no two of them are alike.
func many(n int) []api.Msg {
	var l []api.Msg
	for i := range n {
		l = append(l, from(i%7, (i+3)%5, i))
	}
	return l
}

// wrong are places where nothing is, if there are so many messages.
func wrong(n int) []int {
	return []int{-1, -2, -n, -n - 1, n, n + 1, 2*n + 5, api.MaxFlight, api.MaxFlight + 1, -1 << 31, 1<<31 - 1, 1 << 31, 1 << 32, -1 << 32, 1 << 62, math.MinInt, math.MinInt + 1, math.MaxInt - 1, math.MaxInt}
}

// agrees asks whether a net has just the messages that are written on paper, in that order.
func agrees(t *testing.T, name string, n *net.Net, p *paper) {
	t.Helper()
	if n.Len() != len(*p) {
		t.Errorf("%s: %d messages, not %d", name, n.Len(), len(*p))
	}
	for i, want := range *p {
		m, ok := n.At(i)
		isMsg(t, name, m, ok, want, true)
	}
	for _, i := range []int{-1, len(*p), math.MinInt, math.MaxInt} {
		m, ok := n.At(i)
		isMsg(t, name, m, ok, api.Msg{}, false)
	}
}

// isMsg asks for a message, or for none.
func isMsg(t *testing.T, name string, m api.Msg, ok bool, want api.Msg, wantOK bool) {
	t.Helper()
	if !same(m, want) || ok != wantOK {
		t.Errorf("%s: %s, %t, not %s, %t", name, told(m), ok, told(want), wantOK)
	}
}

// told is a message as text, its lists cut where they are long.
func told(m api.Msg) string {
	return fmt.Sprintf("{%d %d %d %d:%v %d:%x}", m.From, m.To, m.Kind, len(m.Nums), m.Nums[:min(8, len(m.Nums))], len(m.Data), m.Data[:min(8, len(m.Data))])
}

// is asks for an answer.
func is[T comparable](t *testing.T, name string, got, want T) {
	t.Helper()
	if got != want {
		t.Errorf("%s: %v, not %v", name, got, want)
	}
}

// drawn are numbers that look drawn and are the same each time.
type drawn uint64

// below is a number from 0 to n - 1.
func (x *drawn) below(n int) int {
	*x = *x*6364136223846793005 + 1442695040888963407
	return int(uint64(*x) >> 33 % uint64(n))
}
