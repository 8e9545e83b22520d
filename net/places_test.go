package net_test

import (
	"bytes"
	"math"
	"runtime"
	"slices"
	"strconv"
	"testing"

	"garner/api"
	"garner/net"
)

// sizes are how many messages the nets of a test have.
func sizes() []int { return []int{0, 1, 2, 3, 4, 7, 40} }

// TestP5_2Example is the chapter's example.
func TestP5_2Example(t *testing.T) {
	a := api.Msg{From: 1, To: 2, Kind: 3, Nums: []int{4}, Data: []byte("a")}
	b := api.Msg{From: 2, To: 1, Kind: 5, Nums: []int{6, 7}, Data: []byte("bb")}
	n := &net.Net{}
	is(t, "Send", n.Send(a), true)
	is(t, "Send", n.Send(b), true)
	is(t, "Twice", n.Twice(0), true)
	m, ok := n.Take(1)
	isMsg(t, "Take", m, ok, b, true)
	is(t, "Len", n.Len(), 2)
	agrees(t, "the example", n, &paper{a, a})
}

// TestP5_2Nothing is At, Take and Twice where nothing is: nothing changes.
func TestP5_2Nothing(t *testing.T) {
	for _, size := range sizes() {
		n, p := laid(t, many(size)...)
		for _, i := range wrong(size) {
			name := strconv.Itoa(i) + " of " + strconv.Itoa(size)
			m, ok := n.At(i)
			isMsg(t, "At "+name, m, ok, api.Msg{}, false)
			m, ok = n.Take(i)
			isMsg(t, "Take "+name, m, ok, api.Msg{}, false)
			is(t, "Twice "+name, n.Twice(i), false)
			is(t, "Len", n.Len(), size)
		}
		agrees(t, "nothing", n, p)
	}
}

// TestP5_2Full is At, Take and Twice where nothing is, in a net that is full.
func TestP5_2Full(t *testing.T) {
	n, p := laid(t, many(api.MaxFlight)...)
	for _, i := range wrong(api.MaxFlight) {
		m, ok := n.At(i)
		isMsg(t, "At", m, ok, api.Msg{}, false)
		m, ok = n.Take(i)
		isMsg(t, "Take", m, ok, api.Msg{}, false)
		is(t, "Twice", n.Twice(i), false)
		is(t, "Len", n.Len(), api.MaxFlight)
	}
	agrees(t, "full", n, p)
}

// TestP5_2At is At of each message: it stays, however often it is asked.
func TestP5_2At(t *testing.T) {
	l := kinds()
	n, p := laid(t, l...)
	for i := range l {
		for range 3 {
			m, ok := n.At(i)
			isMsg(t, "At", m, ok, l[i], true)
		}
		m, ok := n.At(len(l) - 1 - i)
		isMsg(t, "At", m, ok, l[len(l)-1-i], true)
	}
	is(t, "Len", n.Len(), len(l))
	agrees(t, "At", n, p)
}

// TestP5_2Take is Take of each message, the first one, those in the middle, the last one: those behind move up.
func TestP5_2Take(t *testing.T) {
	for _, size := range sizes() {
		for i := range size {
			n, _ := laid(t, many(size)...)
			m, ok := n.Take(i)
			l := many(size)
			isMsg(t, "Take", m, ok, l[i], true)
			rest := paper(slices.Concat(l[:i], l[i+1:]))
			agrees(t, "Take", n, &rest)
			is(t, "Send behind it", n.Send(from(9, 9, 9)), true)
			rest = append(rest, from(9, 9, 9))
			agrees(t, "Send behind Take", n, &rest)
		}
	}
}

// TestP5_2TakeKinds is Take of messages of every kind.
func TestP5_2TakeKinds(t *testing.T) {
	l := kinds()
	for i := range l {
		n, p := laid(t, l...)
		m, ok := n.Take(i)
		isMsg(t, "Take", m, ok, l[i], true)
		p.take(i)
		agrees(t, "Take", n, p)
	}
}

// TestP5_2TakeAll is Take till there is none, from the first one, from the last one, from the middle.
func TestP5_2TakeAll(t *testing.T) {
	for name, which := range map[string]func(n int) int{
		"the first":  func(n int) int { return 0 },
		"the last":   func(n int) int { return n - 1 },
		"the middle": func(n int) int { return n / 2 },
	} {
		n, p := laid(t, many(60)...)
		for left := 60; left > 0; left-- {
			m, ok := n.Take(which(left))
			want, wantOK := p.take(which(left))
			isMsg(t, name, m, ok, want, wantOK)
			agrees(t, name, n, p)
		}
		m, ok := n.Take(0)
		isMsg(t, name, m, ok, api.Msg{}, false)
		is(t, "Len", n.Len(), 0)
	}
}

// TestP5_2TakeFull is Take from a net that is full.
func TestP5_2TakeFull(t *testing.T) {
	for _, i := range []int{0, 1, 255, 256, api.MaxFlight/2 - 1, api.MaxFlight - 2, api.MaxFlight - 1} {
		n, p := laid(t, many(api.MaxFlight)...)
		m, ok := n.Take(i)
		want, wantOK := p.take(i)
		isMsg(t, "Take", m, ok, want, wantOK)
		agrees(t, "Take", n, p)
	}
}

// TestP5_2Twice is Twice of each message, the first one, those in the middle, the last one: it stays, and stands once more at the end.
func TestP5_2Twice(t *testing.T) {
	for _, l := range [][]api.Msg{many(1), many(2), many(3), many(7), kinds()} {
		for i := range l {
			n, _ := laid(t, l...)
			is(t, "Twice", n.Twice(i), true)
			p := paper(slices.Concat(l, l[i:i+1]))
			agrees(t, "Twice", n, &p)
			is(t, "Twice again", n.Twice(i), true)
			is(t, "Twice of the one at the end", n.Twice(len(l)), true)
			p = append(p, l[i], l[i])
			agrees(t, "Twice again", n, &p)
			m, ok := n.Take(i)
			isMsg(t, "Take", m, ok, l[i], true)
			p.take(i)
			agrees(t, "the first of the two went", n, &p)
		}
	}
}

// TestP5_2TwiceMost is Twice till there are MaxFlight, and more: nothing changes then.
func TestP5_2TwiceMost(t *testing.T) {
	n, p := laid(t, small()...)
	for i := n.Len(); i < api.MaxFlight; i++ {
		is(t, "Twice", n.Twice(i/2), true)
		is(t, "Len", n.Len(), i+1)
		*p = append(*p, (*p)[i/2])
	}
	agrees(t, "all", n, p)
	for _, i := range []int{0, 1, api.MaxFlight / 2, api.MaxFlight - 2, api.MaxFlight - 1} {
		is(t, "one more, by Twice", n.Twice(i), false)
		is(t, "one more, by Send", n.Send(from(1, 2, i)), false)
		is(t, "Len", n.Len(), api.MaxFlight)
	}
	agrees(t, "one more", n, p)
	n.Take(5)
	p.take(5)
	is(t, "one that fits", n.Twice(api.MaxFlight-2), true)
	p.twice(api.MaxFlight - 2)
	is(t, "one more", n.Twice(api.MaxFlight-2), false)
	agrees(t, "full again", n, p)
}

// TestP5_2Great is that a great message that stands many times takes no more memory than once: what was given is still small, so that no call may end for want of memory (W1).
func TestP5_2Great(t *testing.T) {
	const size, times = 1 << 22, 64
	m := api.Msg{From: 1, To: 2, Nums: []int{3}, Data: bytes.Repeat([]byte{7}, size)}
	n, _ := laid(t, m)
	var before, after runtime.MemStats
	runtime.ReadMemStats(&before)
	for i := range times {
		is(t, "Twice", n.Twice(i/2), true)
	}
	runtime.ReadMemStats(&after)
	if more := after.TotalAlloc - before.TotalAlloc; more > size {
		t.Errorf("%d bytes more, for %d messages of %d", more, times, size)
	}
	for _, i := range []int{0, times / 2, times - 2} {
		got, ok := n.Take(i)
		isMsg(t, "Take", got, ok, m, true)
	}
	is(t, "Drop", n.Drop(2), times-2)
}

// TestP5_2Drop is Drop of none, of some, of all: of a node that is only From, only To, both.
func TestP5_2Drop(t *testing.T) {
	l := []api.Msg{from(1, 2, 0), from(2, 3, 1), from(3, 3, 2), from(1, 4, 3), from(4, 3, 4), from(5, 6, 5), from(1, 2, 6), from(7, 7, 7)}
	for _, x := range []struct {
		node int
		rest []int
	}{
		{0, []int{0, 1, 2, 3, 4, 5, 6, 7}},
		{8, []int{0, 1, 2, 3, 4, 5, 6, 7}},
		{-1, []int{0, 1, 2, 3, 4, 5, 6, 7}},
		{1, []int{1, 2, 4, 5, 7}},       // only From
		{2, []int{2, 3, 4, 5, 7}},       // From of one, To of others
		{3, []int{0, 3, 5, 6, 7}},       // both of one, To of others
		{4, []int{0, 1, 2, 5, 6, 7}},    // To of one, From of another
		{5, []int{0, 1, 2, 3, 4, 6, 7}}, // only From, of one
		{6, []int{0, 1, 2, 3, 4, 6, 7}}, // only To; and its Kind is that of another
		{7, []int{0, 1, 2, 3, 4, 5, 6}}, // both, the last one
	} {
		n, _ := laid(t, l...)
		var p paper
		for _, i := range x.rest {
			p = append(p, l[i])
		}
		name := "Drop " + strconv.Itoa(x.node)
		is(t, name, n.Drop(x.node), len(l)-len(p))
		agrees(t, name, n, &p)
		is(t, name+" again", n.Drop(x.node), 0)
		agrees(t, name+" again", n, &p)
		is(t, "Send of one that would have gone", n.Send(from(x.node, x.node, 1)), true)
		p = append(p, from(x.node, x.node, 1))
		agrees(t, "Send behind Drop", n, &p)
	}
}

// TestP5_2DropAll is Drop of a node that all messages have, and of any node where there is no message.
func TestP5_2DropAll(t *testing.T) {
	for _, size := range []int{0, 1, 2, 50, api.MaxFlight} {
		for name, m := range map[string]api.Msg{"From": from(3, 4, 1), "To": from(4, 3, 1), "both": from(3, 3, 1)} {
			n, p := laid(t, slices.Repeat([]api.Msg{m}, size)...)
			is(t, "Drop of another", n.Drop(5), 0)
			is(t, "Len", n.Len(), size)
			is(t, name, n.Drop(3), size)
			*p = nil
			agrees(t, name, n, p)
			is(t, "Drop of none", n.Drop(3), 0)
			is(t, "Send", n.Send(m), true)
			agrees(t, "Send", n, &paper{m})
		}
	}
}

// TestP5_2DropNumbers is Drop of numbers around 0, below it, and of ones that end in the same digits as others.
func TestP5_2DropNumbers(t *testing.T) {
	l := []int{math.MinInt, math.MinInt + 1, -1 << 32, -1 << 31, -256, -2, -1, 0, 1, 2, 255, 256, 257, 65536, 1<<31 - 1, 1 << 31, 1 << 32, 1<<32 + 1, math.MaxInt - 1, math.MaxInt}
	var row []api.Msg
	for i, node := range l {
		row = append(row, from(node, 77, i), from(77, node, i), from(node, node, i))
	}
	for i, node := range l {
		n, p := laid(t, row...)
		is(t, "Drop "+strconv.Itoa(node), n.Drop(node), 3)
		rest := paper(slices.Concat((*p)[:3*i], (*p)[3*i+3:]))
		agrees(t, "Drop "+strconv.Itoa(node), n, &rest)
	}
	n, p := laid(t, row...)
	for _, node := range []int{-3, 3, math.MinInt + 2, math.MaxInt - 2, -77} {
		is(t, "Drop of none", n.Drop(node), 0)
		agrees(t, "Drop of none", n, p)
	}
	is(t, "Drop", n.Drop(77), 2*len(l))
}

// TestP5_2DropTwice is Drop of messages that stand twice, and Twice behind a Drop.
func TestP5_2DropTwice(t *testing.T) {
	n, p := laid(t, from(1, 2, 0), from(2, 3, 1), from(3, 1, 2))
	for i := range 3 {
		n.Twice(i)
		p.twice(i)
	}
	is(t, "Drop", n.Drop(2), 4)
	p.drop(2)
	agrees(t, "Drop", n, p)
	is(t, "Twice of what went", n.Twice(2), false)
	is(t, "Twice", n.Twice(1), true)
	p.twice(1)
	agrees(t, "Twice", n, p)
	is(t, "Drop of the rest", n.Drop(1), 3)
	is(t, "Len", n.Len(), 0)
}
