package raft_test

import (
	"math"
	"testing"

	"garner/api"
)

// drawnMsg is a message to a node that might come: its numbers are near to those that the node has.
func drawnMsg(script *drawn, p *paper) api.Msg {
	from := script.below(p.n)
	term := max(0, p.term+script.below(4)-1)
	if script.below(3) > 0 {
		term = p.term
	}
	number := max(0, len(p.log)+script.below(4)-2)
	if script.below(4) == 0 {
		number = script.below(len(p.log) + 1)
	}
	numberTerm := max(0, p.termAt(min(number, len(p.log))))
	if script.below(5) == 0 {
		numberTerm = script.below(p.term + 2)
	}
	switch script.below(6) {
	case 0:
		return msg(from, p.id, asks, nil, term, number, numberTerm)
	case 1:
		return msg(from, p.id, votes, nil, term, script.below(2))
	case 2:
		return msg(from, p.id, took, nil, term, min(1, script.below(4)), number)
	default:
		var l []api.Entry
		for range script.below(4) {
			l = append(l, api.Entry{Term: max(0, term-script.below(2)), Data: row(script.below(30), script.below(9))})
		}
		return msg(from, p.id, entries, packed(l...), term, number, numberTerm, script.below(len(p.log)+3))
	}
}

// one is one call of a script.
func one(script *drawn, x *bench) {
	x.t.Helper()
	switch script.below(12) {
	case 0, 1:
		x.propose(row(script.below(60), script.below(9)))
	case 2:
		x.take()
	case 3, 4:
		for range script.below(12) {
			x.tick(script.below(30) - 5)
		}
	case 5:
		// A vote that it may be waiting for.
		x.hear(msg((x.p.id+1)%x.p.n, x.p.id, votes, nil, x.p.term, 1), 0)
	case 6:
		// One of the last entries was taken.
		x.hear(msg((x.p.id+1)%x.p.n, x.p.id, took, nil, x.p.term, 1, len(x.p.log)), 0)
	default:
		x.hear(drawnMsg(script, x.p), script.below(20))
	}
}

// TestP16_3Lasts is drawn scripts with a Crash and another Open behind each call: term, vote and log are as they were told.
func TestP16_3Lasts(t *testing.T) {
	for start := range 40 {
		script := drawn(start)
		n := []int{1, 3, 5}[start%3]
		x := fresh(t, script.below(n), n, 1<<16, 0)
		for step := range 120 {
			one(&script, x)
			x.crash([]int{0, 1, 7, -1, math.MaxInt, math.MinInt}[script.below(6)])
			for range script.below(12) {
				x.tick(0)
			}
			if t.Failed() {
				t.Fatalf("start %d, step %d", start, step)
			}
		}
	}
}

// TestP16_3Drawn is drawn scripts of calls, and now and then a Crash: each answer and the disk are as on paper.
func TestP16_3Drawn(t *testing.T) {
	roles := [3]int{}
	for start := range 120 {
		script := drawn(start + 1000)
		n := []int{3, 5, 3, 5, 1}[start%5]
		room := []int{1 << 20, 1 << 20, 3000, 500}[start%4]
		x := fresh(t, script.below(n), n, room, 3)
		for step := range 300 {
			one(&script, x)
			role, _, _ := x.r.State()
			roles[role]++
			if script.below(60) == 0 || x.p.stopped && script.below(3) == 0 {
				x.crash(script.below(100))
			}
			if t.Failed() {
				t.Fatalf("start %d, step %d", start, step)
			}
		}
	}
	for role, n := range roles {
		if n < 2000 {
			t.Errorf("the role %d only %d times", role, n)
		}
	}
}
