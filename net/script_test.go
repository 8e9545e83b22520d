package net_test

import (
	"math"
	"strconv"
	"testing"

	"garner/api"
	"garner/net"
)

// answer is what a step of a script answered: a message, a bool, a number.
type answer struct {
	step string
	m    api.Msg
	ok   bool
	n    int
}

// drawMsg is a message between few nodes, so that a Drop meets several.
func drawMsg(x *drawn) api.Msg {
	m := from(x.below(7)-2, x.below(7)-2, x.below(4))
	if x.below(8) == 0 {
		m = small()[x.below(len(small()))]
	}
	for range x.below(6) {
		m.Nums = append(m.Nums, x.below(1000)-500)
		m.Data = append(m.Data, byte(x.below(256)))
	}
	return m
}

// drawPlace is a place in a row of n, or one where nothing is.
func drawPlace(x *drawn, n int) int {
	switch x.below(10) {
	case 0:
		return x.below(n+3) - 1
	case 1:
		return wrong(n)[x.below(len(wrong(n)))]
	case 2:
		return 0
	case 3:
		return n - 1
	}
	return x.below(n + 1)
}

// doOne does one thing to a net, and the same on paper: what they answer. A Drop comes once in so many steps.
func doOne(x *drawn, n *net.Net, p *paper, drops int) (answer, answer) {
	i, m := drawPlace(x, len(*p)), drawMsg(x)
	name := strconv.Itoa(i) + " of " + strconv.Itoa(len(*p))
	if x.below(drops) == 0 {
		node := []int{-3, -2, -1, 0, 1, 2, 3, 4, 5, math.MinInt, math.MaxInt}[x.below(11)]
		name = "Drop " + strconv.Itoa(node)
		return answer{step: name, n: n.Drop(node)}, answer{step: name, n: p.drop(node)}
	}
	got, want := answer{}, answer{}
	switch x.below(8) {
	case 0, 1, 2:
		given, whole := roomy(m)
		got.ok, want.ok = n.Send(given), p.send(m)
		spoil(whole)
		name = "Send behind " + name
	case 3:
		got.m, got.ok = n.At(i)
		want.m, want.ok = p.at(i)
		name = "At " + name
	case 4, 5:
		got.m, got.ok = n.Take(i)
		want.m, want.ok = p.take(i)
		name = "Take " + name
	default:
		got.ok, want.ok = n.Twice(i), p.twice(i)
		name = "Twice " + name
	}
	got.step, want.step = name, name
	return got, want
}

// isAnswer asks for what a step answers.
func isAnswer(t *testing.T, got, want answer) {
	t.Helper()
	isMsg(t, got.step, got.m, got.ok, want.m, want.ok)
	is(t, got.step, got.n, want.n)
}

// play is a script of messages that are sent, asked, taken, doubled and dropped: behind each step all is as on paper, and in the end each answer is what it was.
func play(t *testing.T, x drawn, n *net.Net, p *paper, steps, drops int) {
	t.Helper()
	var had []answer
	var wants []answer
	for i := range steps {
		got, want := doOne(&x, n, p, drops)
		isAnswer(t, got, want)
		agrees(t, got.step, n, p)
		if t.Failed() {
			t.Fatalf("step %d", i)
		}
		if i%2 == 0 {
			spoil(got.m)
			continue
		}
		had, wants = append(had, got), append(wants, want)
	}
	for i := range had {
		isAnswer(t, had[i], wants[i])
	}
}

// TestP5_3Script is scripts from an empty net on: it grows and is dropped again.
func TestP5_3Script(t *testing.T) {
	for start := range 60 {
		n, p := laid(t)
		play(t, drawn(start), n, p, 300, 5+start)
	}
}

// TestP5_3Full is scripts around MaxFlight messages, with few drops.
func TestP5_3Full(t *testing.T) {
	for start := range 4 {
		n, p := laid(t, many(api.MaxFlight-3)...)
		play(t, drawn(start), n, p, 60, 50)
	}
}

// TestW2Twins is that two nets to which the same is done answer the same.
func TestW2Twins(t *testing.T) {
	for start := range 20 {
		one, two := drawn(start), drawn(start)
		n, p := laid(t)
		twin, q := laid(t)
		for range 100 {
			a, _ := doOne(&one, n, p, 20)
			b, _ := doOne(&two, twin, q, 20)
			isAnswer(t, b, a)
			is(t, "Len", twin.Len(), n.Len())
		}
		agrees(t, "one", n, q)
		agrees(t, "its twin", twin, p)
	}
}
