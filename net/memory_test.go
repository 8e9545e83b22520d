package net_test

import (
	"bytes"
	"slices"
	"testing"

	"garner/api"
	"garner/net"
)

// inRoom is a list with other things in the spare room behind its end, and all of that room.
func inRoom[T any](l []T, behind T) ([]T, []T) {
	whole := slices.Concat(l, slices.Repeat([]T{behind}, 24))
	return whole[:len(l)], whole
}

// roomy is a message whose lists have spare room behind their ends, and all of that room as lists of another one.
func roomy(m api.Msg) (api.Msg, api.Msg) {
	whole := m
	m.Nums, whole.Nums = inRoom(m.Nums, 77)
	m.Data, whole.Data = inRoom(m.Data, 0xaa)
	return m, whole
}

// fill writes into all of a list, its spare room too.
func fill[T byte | int](l []T) {
	l = l[:cap(l)]
	for i := range l {
		l[i] ^= 0x5a
	}
}

// spoil writes into all that a message's lists have, their spare room too.
func spoil(m api.Msg) {
	fill(m.Nums)
	fill(m.Data)
}

// lists are messages with lists of many lengths.
func lists() []api.Msg {
	l := kinds()
	for _, n := range []int{1, 2, 3, 4, 5, 7, 8, 9, 15, 16, 17, 31, 32, 33, 64, 100, 1000} {
		l = append(l, api.Msg{From: n, To: n + 1, Nums: slices.Repeat([]int{n}, n), Data: bytes.Repeat([]byte{byte(n)}, n+1)})
	}
	return l
}

// TestP5_3Send asks whether Send neither changes nor keeps lists, nor the room behind them.
func TestP5_3Send(t *testing.T) {
	n, p := laid(t)
	for _, m := range lists() {
		given, whole := roomy(m)
		before := copyOf(whole)
		is(t, "Send", n.Send(given), true)
		p.send(m)
		is(t, "Send of the same", n.Send(given), true)
		p.send(m)
		agrees(t, "Send", n, p)
		if !same(whole, before) {
			t.Errorf("%s became %s", told(before), told(whole))
		}
		spoil(whole)
		agrees(t, "behind lists that were spoiled", n, p)
	}
}

// TestP5_3Room asks whether anything of the room behind lists that were handed in comes out again.
func TestP5_3Room(t *testing.T) {
	for _, m := range lists() {
		given, _ := roomy(m)
		n, _ := laid(t, given)
		n.Twice(0)
		at, _ := n.At(0)
		first, _ := n.Take(0)
		second, _ := n.Take(0)
		for _, got := range []api.Msg{at, first, second} {
			nums, data := got.Nums[len(got.Nums):cap(got.Nums)], got.Data[len(got.Data):cap(got.Data)]
			if slices.Contains(nums, 77) || slices.Contains(data, 0xaa) {
				t.Errorf("%s: %v and %x behind the ends", told(m), nums, data)
			}
		}
	}
}

// TestP5_3Changed asks whether what is done to a net is seen in the lists that were handed in.
func TestP5_3Changed(t *testing.T) {
	for _, m := range lists() {
		given, whole := roomy(m)
		before := copyOf(whole)
		n, _ := laid(t, given, given)
		n.Twice(0)
		for i := range 3 {
			got, _ := n.At(i)
			spoil(got)
			_ = append(got.Nums, 1, 2, 3)
			_ = append(got.Data, 1, 2, 3)
		}
		n.Send(from(1, 2, 3))
		for range 3 {
			got, _ := n.Take(0)
			spoil(got)
		}
		n.Drop(1)
		n.Send(from(4, 5, 6))
		if !same(whole, before) {
			t.Errorf("%s became %s", told(before), told(whole))
		}
	}
}

// TestP5_3Lost asks whether a Send that is refused leaves its lists.
func TestP5_3Lost(t *testing.T) {
	n, p := laid(t, many(api.MaxFlight)...)
	for _, m := range lists() {
		given, whole := roomy(m)
		before := copyOf(whole)
		is(t, "Send", n.Send(given), false)
		if !same(whole, before) {
			t.Errorf("%s became %s", told(before), told(whole))
		}
		spoil(whole)
	}
	agrees(t, "lost", n, p)
}

// TestP5_3At asks whether what At answers is new memory, with its spare room.
func TestP5_3At(t *testing.T) {
	for _, m := range lists() {
		given, _ := roomy(m)
		n, p := laid(t, from(1, 2, 3), given, from(4, 5, 6))
		for i := range 3 {
			first, _ := n.At(i)
			second, _ := n.At(i)
			spoil(second)
			_ = append(second.Nums, 1, 2, 3, 4)
			_ = append(second.Data, 1, 2, 3, 4)
			if !same(first, (*p)[i]) {
				t.Errorf("%s: two answers share memory", told(m))
			}
			spoil(first)
			agrees(t, "behind an At that was spoiled", n, p)
		}
	}
}

// TestP5_3Take asks whether what Take answers is new memory, with its spare room.
func TestP5_3Take(t *testing.T) {
	for _, m := range lists() {
		for i := range 3 {
			given, whole := roomy(m)
			n, p := laid(t, given, given, given)
			asked, _ := n.At(i)
			first, _ := n.Take(i)
			p.take(i)
			if !same(first, m) {
				t.Errorf("%s, not %s", told(first), told(m))
			}
			spoil(first)
			if !same(asked, m) {
				t.Errorf("%s: what Take answers and what At did share memory", told(m))
			}
			agrees(t, "behind a Take that was spoiled", n, p)
			if !same(given, m) || len(whole.Nums) > len(m.Nums) && whole.Nums[len(m.Nums)] != 77 {
				t.Errorf("%s: what Take answers is what was handed in", told(m))
			}
			second, _ := n.Take(0)
			third, _ := n.Take(0)
			spoil(second)
			if !same(third, m) {
				t.Errorf("%s: what two Takes answer shares memory", told(m))
			}
		}
	}
}

// TestP5_3Twice asks whether the one that stands twice comes out as two that share nothing, whichever goes first.
func TestP5_3Twice(t *testing.T) {
	for _, m := range lists() {
		given, whole := roomy(m)
		before := copyOf(whole)
		n, p := laid(t, given)
		for i := range 3 {
			is(t, "Twice", n.Twice(i), true)
			p.twice(i)
		}
		for i := range 4 {
			got, _ := n.At(i)
			spoil(got)
			agrees(t, "behind an At that was spoiled", n, p)
		}
		for _, i := range []int{1, 2, 0, 0} {
			got, ok := n.Take(i)
			isMsg(t, "Take", got, ok, m, true)
			p.take(i)
			spoil(got)
			_ = append(got.Nums, 1, 2, 3, 4)
			_ = append(got.Data, 1, 2, 3, 4)
			agrees(t, "behind a Take that was spoiled", n, p)
		}
		if !same(whole, before) {
			t.Errorf("%s became %s", told(before), told(whole))
		}
	}
}

// TestP5_3TwiceTaken asks whether two that were taken, of the one that stood twice, share nothing with each other.
func TestP5_3TwiceTaken(t *testing.T) {
	for _, m := range lists() {
		for _, i := range []int{0, 1} {
			n, _ := laid(t, m)
			is(t, "Twice", n.Twice(0), true)
			first, _ := n.Take(i)
			second, _ := n.Take(0)
			spoil(first)
			isMsg(t, "the other one", second, true, m, true)
			first = copyOf(m)
			spoil(second)
			isMsg(t, "the first one", first, true, m, true)
		}
	}
}

// TestP5_3Stays asks whether what was answered stays, whatever is done to the net.
func TestP5_3Stays(t *testing.T) {
	l := lists()
	n, _ := laid(t, l...)
	var at, taken []api.Msg
	for i := range l {
		m, _ := n.At(i)
		at = append(at, m)
	}
	for range l {
		n.Twice(0)
		m, _ := n.Take(0)
		taken = append(taken, m)
	}
	for i := range 20 {
		n.Twice(i)
		n.Take(2 * i)
		n.Drop(i)
	}
	for range n.Len() {
		n.Take(0)
	}
	for range 3 {
		for _, m := range many(40) {
			n.Send(m)
		}
	}
	for i, m := range l {
		isMsg(t, "what At answered", at[i], true, m, true)
		isMsg(t, "what Take answered", taken[i], true, m, true)
	}
}

// TestP5_3Lists asks whether the lists of one answer share anything with those of the messages beside it.
func TestP5_3Lists(t *testing.T) {
	l := lists()
	n, p := laid(t, l...)
	var got []api.Msg
	for i := range l {
		m, _ := n.At(i)
		got = append(got, m)
	}
	for i, m := range got {
		_ = append(m.Nums, 1, 2, 3, 4, 5, 6, 7, 8)
		_ = append(m.Data, 1, 2, 3, 4, 5, 6, 7, 8)
		spoil(m)
		for j := i + 1; j < len(l); j++ {
			isMsg(t, "beside one that was spoiled", got[j], true, l[j], true)
		}
	}
	agrees(t, "spoiled", n, p)
}

// TestP5_3Zero is a zero Net: it has no message, and does all else that one does.
func TestP5_3Zero(t *testing.T) {
	var n net.Net
	agrees(t, "a zero Net", &n, &paper{})
	for _, i := range append(wrong(0), 0, 1) {
		isNothing(t, "a zero Net", &n, i)
	}
	agrees(t, "a zero Net", &n, &paper{})
	m := from(0, 0, 0)
	is(t, "Send", n.Send(m), true)
	agrees(t, "one", &n, &paper{m})
	is(t, "Drop", n.Drop(0), 1)
	for _, i := range append(wrong(0), 0, 1) {
		isNothing(t, "an empty Net", &n, i)
	}
}

// TestP5_3Nil is a nil Net: nothing happens to it.
func TestP5_3Nil(t *testing.T) {
	var n *net.Net
	for _, m := range lists() {
		given, whole := roomy(m)
		before := copyOf(whole)
		is(t, "Send", n.Send(given), false)
		if !same(whole, before) {
			t.Errorf("%s became %s", told(before), told(whole))
		}
		is(t, "Drop", n.Drop(m.From), 0)
	}
	for _, i := range append(wrong(0), 0, 1) {
		isNothing(t, "a nil Net", n, i)
	}
}

// isNothing asks whether a net without a message has none at a place either, and none for a node.
func isNothing(t *testing.T, name string, n *net.Net, i int) {
	t.Helper()
	m, ok := n.At(i)
	isMsg(t, name, m, ok, api.Msg{}, false)
	m, ok = n.Take(i)
	isMsg(t, name, m, ok, api.Msg{}, false)
	is(t, name, n.Twice(i), false)
	is(t, name, n.Drop(i), 0)
	is(t, name, n.Len(), 0)
}
