package raft_test

import (
	"bytes"
	"slices"
	"testing"

	"garner/api"
	"garner/disk"
	"garner/raft"
)

// roomy is a list with spare room behind it, in which other things stand; and all of that room.
func roomy[T any](l []T, with T) ([]T, []T) {
	whole := slices.Concat(l, slices.Repeat([]T{with}, 20))
	return whole[:len(l)], whole
}

// spoil writes into all of a list, its spare room too.
func spoil[T any](l []T, with T) {
	l = l[:cap(l)]
	for i := range l {
		l[i] = with
	}
}

// spoilMsgs writes into all of messages, one list after the other, and asks whether the others stay.
func spoilMsgs(t *testing.T, l []api.Msg) {
	t.Helper()
	for i := range l {
		before := copied(l)
		spoil(l[i].Nums, 77)
		before[i].Nums = l[i].Nums
		if !slices.EqualFunc(l, before, same) {
			t.Errorf("Nums of the message %d share memory with another list", i)
		}
		spoil(l[i].Data, 0x77)
		before[i].Data = l[i].Data
		if !slices.EqualFunc(l, before, same) {
			t.Errorf("Data of the message %d shares memory with another list", i)
		}
	}
	spoil(l, api.Msg{From: 77})
}

// copied is messages in memory of their own.
func copied(l []api.Msg) []api.Msg {
	var c []api.Msg
	for _, m := range l {
		m.Nums, m.Data = slices.Clone(m.Nums), bytes.Clone(m.Data)
		c = append(c, m)
	}
	return c
}

// TestP16_7 is scripts in which all that is handed in, and all that is answered, is written over behind each call: what is told later is as on paper, and answers of before stay.
func TestP16_7(t *testing.T) {
	for start := range 60 {
		script := drawn(start + 2000)
		n := []int{1, 3, 5}[start%3]
		x := fresh(t, script.below(n), n, 1<<20, 0)
		var kept, keptCopy []api.Msg
		var entries, entriesCopy []api.Entry
		for range 200 {
			var l []api.Msg
			switch script.below(5) {
			case 0:
				p, whole := roomy(row(script.below(50)+1, script.below(9)), 0x55)
				before := bytes.Clone(whole)
				l = x.propose(p)
				if !bytes.Equal(whole, before) {
					t.Error("Propose changes what is handed in")
				}
				spoil(whole, 0x77)
			case 1:
				l = x.tick(0)
			default:
				m := drawnMsg(&script, x.p)
				if script.below(4) == 0 {
					m = msg((x.p.id+1)%n, x.p.id, votes, nil, x.p.term, 1)
				}
				var nums []int
				var data []byte
				m.Nums, nums = roomy(m.Nums, 1)
				m.Data, data = roomy(m.Data, 0x55)
				numsBefore, dataBefore := slices.Clone(nums), bytes.Clone(data)
				l = x.hear(m, 0)
				if !slices.Equal(nums, numsBefore) || !bytes.Equal(data, dataBefore) {
					t.Error("Hear changes what is handed in")
				}
				spoil(nums, 77)
				spoil(data, 0x77)
			}
			taken := x.take()
			if script.below(2) == 0 {
				spoilMsgs(t, l)
				for i := range taken {
					spoil(taken[i].Data, 0x77)
				}
				spoil(taken, api.Entry{Term: 77})
			} else {
				kept, keptCopy = append(kept, l...), append(keptCopy, copied(l)...)
				entries = append(entries, taken...)
				for _, e := range taken {
					entriesCopy = append(entriesCopy, api.Entry{Term: e.Term, Data: bytes.Clone(e.Data)})
				}
			}
			x.agrees("written over")
		}
		x.crash(0)
		if !slices.EqualFunc(kept, keptCopy, same) || !slices.EqualFunc(entries, entriesCopy, alike) {
			t.Error("what was answered does not stay")
		}
		if t.Failed() {
			t.Fatalf("start %d", start)
		}
	}
}

// TestP16_7Sent is two answers of the same: to write over one changes nothing of the other, nor of the next.
func TestP16_7Sent(t *testing.T) {
	x := elected(t, 0, 3, 0, en(1, "a"), en(1, "bc"))
	x.hear(msg(1, 0, took, nil, 1, 0, 0), 0)
	x.hear(msg(2, 0, took, nil, 1, 0, 0), 0)
	first := x.ticks(2, 0)
	before := copied(first)
	second := x.ticks(2, 0)
	spoilMsgs(t, second)
	if !slices.EqualFunc(first, before, same) {
		t.Error("an answer shares memory with another one")
	}
	are(t, "again", x.ticks(2, 0), before...)
}

// TestP16_7Taken is entries that are taken and written over: the others of the answer, and what is sent of them, stay.
func TestP16_7Taken(t *testing.T) {
	x := elected(t, 0, 3, 0, en(1, "ab"), en(1, "cd"), en(1, "ef"))
	x.hear(msg(1, 0, took, nil, 1, 1, 4), 0)
	l := x.take()
	for i := range l {
		spoil(l[i].Data, 0x77)
		for j, want := range []string{"ab", "cd", "ef", ""} {
			if j > i && string(l[j].Data) != want {
				t.Errorf("the entries %d and %d share memory", i, j)
			}
		}
	}
	are(t, "what is sent", x.hear(msg(2, 0, took, nil, 1, 0, 0), 0), msg(0, 2, entries, packed(en(1, "ab"), en(1, "cd"), en(1, "ef"), en(1, "")), 1, 0, 0, 4))
}

// TestP16_7Nil is a node that is none: Propose answers ErrArg, all else nothing.
func TestP16_7Nil(t *testing.T) {
	var none *raft.Node
	are(t, "Tick", none.Tick(0))
	for _, m := range right() {
		are(t, "Hear", none.Hear(m, 0))
	}
	for _, p := range [][]byte{nil, []byte("x"), row(65537, 1)} {
		if i, l, e := none.Propose(p); i != 0 || len(l) > 0 || e != api.ErrArg {
			t.Errorf("Propose: %d, %v, error %d", i, l, e)
		}
	}
	isTaken(t, none.Take())
	if role, term, leader := none.State(); role != 0 || term != 0 || leader != 0 {
		t.Errorf("State: %d, %d, %d", role, term, leader)
	}
	if last, committed := none.Log(); last != 0 || committed != 0 {
		t.Errorf("Log: %d, %d", last, committed)
	}
}

// TestW1 is a node that was not opened: it has no disk, and is as one that has stopped.
func TestW1(t *testing.T) {
	isStopped(t, "a node that was not opened", &raft.Node{})
	d := &disk.Disk{}
	r, e := raft.Open(0, 1, d, 0)
	if e != api.OK {
		t.Fatal(e)
	}
	for range 9 {
		are(t, "a zero disk", r.Tick(0))
	}
	are(t, "a zero disk", r.Tick(0))
	isStopped(t, "a zero disk", r)
}

// TestW8 is a node that is copied as a value between its calls, and only the copy used from then on.
func TestW8(t *testing.T) {
	for start := range 20 {
		script := drawn(start + 3000)
		x := fresh(t, 1, 3, 1<<20, 0)
		for range 150 {
			one(&script, x)
			r := *x.r
			x.r = &r
		}
		if t.Failed() {
			t.Fatalf("start %d", start)
		}
	}
}

// TestW2 is two nodes to which the same is done: they answer the same, whatever is done to a third one between.
func TestW2(t *testing.T) {
	for start := range 20 {
		scripts := []drawn{drawn(start + 4000), drawn(start + 4000), drawn(start + 5000)}
		var benches []*bench
		for range scripts {
			benches = append(benches, fresh(t, 1, 3, 3000, 0))
		}
		for range 150 {
			for i, x := range benches {
				one(&scripts[i], x)
			}
			unchanged(t, "twins", benches[0].d, benches[1].d)
		}
		if t.Failed() {
			t.Fatalf("start %d", start)
		}
	}
}

// TestW9 is a disk that others change in any way between the calls: none panics, and all end.
func TestW9(t *testing.T) {
	for start := range 300 {
		script := drawn(start + 6000)
		d := made(t, 4000)
		r, _ := raft.Open(0, 3, d, 0)
		p := &paper{n: 3}
		for range 80 {
			_, p.term, _ = r.State()
			last, _ := r.Log()
			p.log = terms(slices.Repeat([]int{p.term}, last)...)
			name := []string{"term", "term~", "log.00000001", "log.00000003", "log.00000009"}[script.below(5)]
			size, _ := d.Size(name)
			switch script.below(20) {
			case 0:
				d.Cut(name, script.below(size+1))
			case 1:
				d.Remove(name)
			case 2:
				d.Append(name, row(script.below(20), 1))
			case 3:
				d.Append(name, framed(uv(script.below(9), script.below(9))))
			case 4:
				d.Rot(name, script.below(size+1), byte(script.below(256)))
			case 5:
				d.Rename("term", "log.00000001")
			case 6:
				d.Crash(script.below(1000))
			case 7:
				if next, e := raft.Open(0, 3, d, 0); (next == nil) != (e != api.OK) {
					t.Errorf("Open is a node %t, error %d", next != nil, e)
				} else if next != nil {
					r = next
				}
			case 8, 9:
				for range 12 {
					r.Tick(0)
				}
			case 10, 11:
				r.Propose(row(script.below(200), 1))
			case 12, 13:
				r.Hear(msg(1, 0, votes, nil, p.term, 1), 0)
			case 14:
				r.Hear(msg(1, 0, took, nil, p.term, 1, last), 0)
			case 15:
				r.Take()
			default:
				r.Hear(drawnMsg(&script, p), 0)
			}
		}
	}
}
