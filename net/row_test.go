package net_test

import (
	"slices"
	"testing"

	"garner/api"
	"garner/net"
)

// TestP5_1None is a net without a message.
func TestP5_1None(t *testing.T) {
	n, p := laid(t)
	agrees(t, "none", n, p)
}

// TestP5_1One is a net with one message, of every kind.
func TestP5_1One(t *testing.T) {
	for _, m := range kinds() {
		n, p := &net.Net{}, &paper{copyOf(m)}
		is(t, "Send", n.Send(m), true)
		agrees(t, "one", n, p)
		agrees(t, "one, asked again", n, p)
	}
}

// TestP5_1Order is Send of several: each one stands at the end.
func TestP5_1Order(t *testing.T) {
	n, p := laid(t)
	for round := range 3 {
		for i, m := range kinds() {
			is(t, "Send", n.Send(m), true)
			is(t, "Len", n.Len(), round*len(kinds())+i+1)
			p.send(m)
			agrees(t, "Send", n, p)
		}
	}
}

// TestP5_1Alike is Send of the same message again and again: each one counts.
func TestP5_1Alike(t *testing.T) {
	n, p := laid(t)
	m := from(1, 2, 3)
	for i := range 50 {
		is(t, "Send", n.Send(m), true)
		is(t, "Len", n.Len(), i+1)
		p.send(m)
	}
	agrees(t, "alike", n, p)
}

// TestP5_1Most is MaxFlight messages and more: those are lost, and nothing else changes.
func TestP5_1Most(t *testing.T) {
	l := many(api.MaxFlight)
	n, p := laid(t, l[:api.MaxFlight-1]...)
	agrees(t, "one less", n, p)
	is(t, "the last one", n.Send(l[api.MaxFlight-1]), true)
	p.send(l[api.MaxFlight-1])
	is(t, "Len", n.Len(), api.MaxFlight)
	agrees(t, "all", n, p)
	for _, m := range append(small(), l[0]) {
		is(t, "one more", n.Send(m), false)
		is(t, "Len", n.Len(), api.MaxFlight)
	}
	agrees(t, "those that are lost", n, p)
}

// TestP5_1Room is that one that goes makes room for one, and no more.
func TestP5_1Room(t *testing.T) {
	n, p := laid(t, many(api.MaxFlight)...)
	for _, i := range []int{0, 7, api.MaxFlight / 2, api.MaxFlight - 1} {
		n.Take(i)
		p.take(i)
		agrees(t, "one went", n, p)
		is(t, "one", n.Send(from(100, 101, i)), true)
		p.send(from(100, 101, i))
		is(t, "one more", n.Send(from(100, 102, i)), false)
		agrees(t, "one came", n, p)
	}
	went := n.Drop(6)
	is(t, "Drop", went, p.drop(6))
	for i := range went + 3 {
		is(t, "Send", n.Send(from(200, 201, i)), i < went)
		p.send(from(200, 201, i))
	}
	agrees(t, "full again", n, p)
}

// TestP5_1Again is a net that is filled, emptied and filled again.
func TestP5_1Again(t *testing.T) {
	n, p := laid(t)
	for range 3 {
		for i, m := range many(api.MaxFlight + 2) {
			is(t, "Send", n.Send(m), i < api.MaxFlight)
			p.send(m)
		}
		agrees(t, "filled", n, p)
		for _, m := range many(api.MaxFlight) {
			got, ok := n.Take(0)
			isMsg(t, "Take", got, ok, m, true)
		}
		*p = nil
		agrees(t, "emptied", n, p)
	}
}

// TestP5_1Apart is that two nets have nothing to do with each other.
func TestP5_1Apart(t *testing.T) {
	n, p := laid(t, many(5)...)
	other, q := laid(t, small()...)
	n.Take(2)
	p.take(2)
	n.Drop(1)
	p.drop(1)
	other.Twice(1)
	q.twice(1)
	agrees(t, "one", n, p)
	agrees(t, "the other", other, q)
	twin, r := laid(t, slices.Concat(many(5), small())...)
	agrees(t, "a third one", twin, r)
}
