package shard_test

import (
	"bytes"
	"slices"
	"testing"

	"garner/api"
	"garner/shard"
)

// handed is rows that are handed in, with other things in the room behind: whole is each row with that room, all is the list of rows with more of them behind.
type handed struct {
	rows  [][]byte
	whole [][]byte
	all   [][]byte
	heads []*byte
}

// inRoom are rows with bytes in the room behind each one, lost ones too, and rows in the room behind the last one.
func inRoom(rows [][]byte) *handed {
	h := &handed{}
	for _, row := range rows {
		whole := slices.Concat(row, bytes.Repeat([]byte{0xaa}, 40))
		h.whole = append(h.whole, whole)
		h.all = append(h.all, whole[:len(row)])
	}
	for range 20 {
		whole := bytes.Repeat([]byte{0xaa}, 40)
		h.whole = append(h.whole, whole)
		h.all = append(h.all, whole[:20])
	}
	h.rows = h.all[:len(rows)]
	for _, row := range h.all {
		h.heads = append(h.heads, &row[:1][0])
	}
	return h
}

// stays asks whether all of it is as it was: each row's bytes, the room behind, and which row stands where.
func (h *handed) stays(t *testing.T, name string, before *handed) {
	t.Helper()
	if !same(h.whole, before.whole) {
		t.Errorf("%s: a row that was handed in was changed, or the room behind it", name)
	}
	for i, row := range h.all {
		if len(row) != len(before.all[i]) || &row[:1][0] != h.heads[i] {
			t.Errorf("%s: another row stands at %d of what was handed in", name, i)
		}
	}
}

// spoil writes into all of it.
func (h *handed) spoil() {
	for i := range h.whole {
		for j := range h.whole[i] {
			h.whole[i][j] ^= 0x5a
		}
	}
	for i := range h.all {
		h.all[i] = []byte{0x5a}
	}
}

// spoilRow writes into all of a row and the room behind it.
func spoilRow(row []byte) {
	row = row[:cap(row)]
	for i := range row {
		row[i] ^= 0x5a
	}
}

// spoil writes into all rows of an answer and the room behind them, and lays other rows into their list and the room behind that.
func spoil(l [][]byte) {
	for _, row := range l {
		spoilRow(row)
	}
	l = l[:cap(l)]
	for i := range l {
		l[i] = []byte{0x5a, 0x5a}
	}
}

// given is what is handed in with rows, by a name that tells of it.
type given struct {
	name string
	rows [][]byte
	p    pair
}

// call is a call to which rows are handed in, by its name. One that answers no rows answers its number as one.
type call struct {
	name   string
	answer func(rows [][]byte, p pair) ([][]byte, api.Errno)
}

// calls are all of them. Sums has the first k of the rows, with the others in the room behind, and all of them.
func calls() []call {
	return []call{
		{"Sums", func(rows [][]byte, p pair) ([][]byte, api.Errno) {
			return shard.Sums(rows[:max(0, min(p.k, len(rows)))], p.m)
		}},
		{"Sums of all", func(rows [][]byte, p pair) ([][]byte, api.Errno) { return shard.Sums(rows, p.m) }},
		{"Mend", func(rows [][]byte, p pair) ([][]byte, api.Errno) { return shard.Mend(rows, p.k, p.m) }},
		{"Right", func(rows [][]byte, p pair) ([][]byte, api.Errno) {
			right, e := shard.Right(rows, p.k, p.m)
			if right {
				return [][]byte{{1}}, e
			}
			return nil, e
		}},
		{"Wrong", func(rows [][]byte, p pair) ([][]byte, api.Errno) {
			i, e := shard.Wrong(rows, p.k, p.m)
			return [][]byte{{byte(i)}}, e
		}},
	}
}

// gifts are rows that fit, ones of which some are lost, ones of which one or more are wrong, ones that are refused.
func gifts() []given {
	x := drawn(61)
	var l []given
	for _, p := range []pair{{1, 0}, {1, 1}, {2, 1}, {2, 2}, {3, 0}, {4, 3}, {1, 13}, {10, 4}, {14, 0}} {
		for _, n := range []int{1, 2, 16, 33} {
			all := x.fitting(p, n)
			lost := without(all, x.lost(p.k+p.m, p.m))
			none := without(all, x.lost(p.k+p.m, min(p.m+1, p.k+p.m)))
			wrong, more := copied(all), copied(all)
			wrong[x.below(p.k+p.m)][n-1] ^= x.some()
			for i := range more {
				more[i][0] ^= x.next()
			}
			unlike := copied(all)
			unlike[p.k-1] = x.row(n + 1)
			l = append(l,
				given{"rows that fit", all, p},
				given{"rows of which m are lost", lost, p},
				given{"rows of which some are lost", without(all, x.lost(p.k+p.m, p.m/2)), p},
				given{"rows of which too many are lost", none, p},
				given{"rows of which one is wrong", wrong, p},
				given{"rows that do not fit", more, p},
				given{"rows that do not fit, some lost", without(more, x.lost(p.k+p.m, p.m/2)), p},
				given{"rows of unlike length", unlike, p},
				given{"a row too many", append(copied(all), x.row(n)), p},
				given{"another k", all, pair{p.k + 1, p.m}},
				given{"k 0", all, pair{0, p.k + p.m}},
				given{"m below 0", all, pair{p.k, -1}})
		}
	}
	return append(l, given{"no row", nil, pair{2, 1}}, given{"no row, k 0", nil, pair{0, 0}}, given{"15 rows", x.rows(15, 2), pair{15, 0}})
}

// isSame asks whether two ways led to the same rows.
func isSame(t *testing.T, name string, a, b [][]byte) {
	t.Helper()
	if !same(a, b) {
		t.Fatalf("%s: %v and %v", name, few(a), few(b))
	}
}

// TestP8_5Arguments asks whether what is handed in stays as it is, row by row, with the room behind each one and behind the last, whatever the answer.
func TestP8_5Arguments(t *testing.T) {
	for _, g := range gifts() {
		for _, c := range calls() {
			h, before := inRoom(g.rows), inRoom(g.rows)
			c.answer(h.rows, g.p)
			h.stays(t, c.name+" of "+g.name, before)
		}
	}
}

// TestP8_5RoomBehind asks whether what stands behind rows' ends and behind the last row has no say, and stands behind no answer's end.
func TestP8_5RoomBehind(t *testing.T) {
	for _, g := range gifts() {
		for _, c := range calls() {
			got, e := c.answer(inRoom(g.rows).rows, g.p)
			want, wantE := c.answer(copied(g.rows), g.p)
			isSame(t, c.name+" of "+g.name, got, want)
			if e != wantE {
				t.Errorf("%s of %s: %d, not %d", c.name, g.name, e, wantE)
			}
			for _, row := range got[:cap(got)] {
				if bytes.IndexByte(row[len(row):cap(row)], 0xaa) >= 0 {
					t.Errorf("%s of %s: room that was handed in stands behind the answer", c.name, g.name)
				}
			}
		}
	}
}

// TestP8_5Answers asks whether an answer, with its spare room, is new memory, the rows too that Mend leaves as they are: what is written there is not seen in what was handed in, nor in the room behind that.
func TestP8_5Answers(t *testing.T) {
	for _, g := range gifts() {
		for _, c := range calls() {
			h, before := inRoom(g.rows), inRoom(g.rows)
			got, _ := c.answer(h.rows, g.p)
			for i := range got {
				spoilRow(got[i])
				h.stays(t, c.name+" of "+g.name, before)
			}
			spoil(got)
			h.stays(t, c.name+" of "+g.name, before)
		}
	}
}

// TestP8_5Rows asks whether the rows of an answer share no memory: what is written into one and the room behind it is not seen in another.
func TestP8_5Rows(t *testing.T) {
	for _, g := range gifts() {
		for _, c := range calls() {
			got, _ := c.answer(g.rows, g.p)
			want := copied(got)
			for i := range got {
				spoilRow(got[i])
				spoilRow(want[i])
				if !same(got, want) {
					t.Fatalf("%s of %s: the row %d of %d shares memory with another", c.name, g.name, i, len(got))
				}
			}
		}
	}
}

// TestP8_5Kept asks whether an answer stays what it is, and the next one too, when what was handed in is spoiled, row by row, and another answer.
func TestP8_5Kept(t *testing.T) {
	for _, g := range gifts() {
		for _, c := range calls() {
			name := c.name + " of " + g.name
			h := inRoom(g.rows)
			first, _ := c.answer(h.rows, g.p)
			want := copied(first)
			other, _ := c.answer(h.rows, g.p)
			isSame(t, name+" again", other, want)
			spoil(other)
			isSame(t, name+" behind one that was spoiled", first, want)
			third, _ := c.answer(h.rows, g.p)
			isSame(t, name+" once more", third, want)
			h.spoil()
			isSame(t, name+" behind rows that were spoiled", first, want)
			isSame(t, name+" behind rows that were spoiled", third, want)
			last, _ := c.answer(copied(g.rows), g.p)
			isSame(t, name+", the same rows", last, want)
		}
	}
}

// TestP8_5Stay is the rows that Mend leaves as they are, each one for itself: it is not the row that was handed in.
func TestP8_5Stay(t *testing.T) {
	x := drawn(62)
	for _, p := range pairs() {
		all := x.fitting(p, 5)
		h := inRoom(without(all, x.lost(p.k+p.m, p.m/2)))
		got, e := shard.Mend(h.rows, p.k, p.m)
		if e != api.OK {
			t.Fatalf("Mend of %d, %d: %d", p.k, p.m, e)
		}
		for i, whole := range h.whole[:p.k+p.m] {
			before := copied(got)
			spoilRow(whole)
			isSame(t, "Mend, then a row that was handed in was spoiled", got, before)
			now := slices.Clone(whole)
			spoilRow(got[i])
			if !bytes.Equal(whole, now) {
				t.Fatalf("Mend of %d, %d: the row %d is the one that was handed in", p.k, p.m, i)
			}
		}
	}
}

// TestP8_5Stays asks whether answers stay what they are, whatever is called later.
func TestP8_5Stays(t *testing.T) {
	var got, wants [][][]byte
	for range 2 {
		for _, g := range gifts() {
			for _, c := range calls() {
				l, _ := c.answer(g.rows, g.p)
				got, wants = append(got, l), append(wants, copied(l))
			}
		}
	}
	for i := range got {
		isSame(t, "an answer of before", got[i], wants[i])
	}
}

// TestP8_5OneMemory is rows that lie one behind the other in one memory, each in the room behind the one ahead, ones that overlap, and one row that stands at each place.
func TestP8_5OneMemory(t *testing.T) {
	x := drawn(63)
	for _, p := range pairs() {
		const n = 6
		all := x.fitting(p, n)
		memory := bytes.Join(all, nil)
		before := slices.Clone(memory)
		l, over := make([][]byte, len(all)), make([][]byte, len(all))
		for i := range all {
			l[i] = memory[i*n : (i+1)*n]
			over[i] = memory[i : i+n]
		}
		isSums(t, l[:p.k], p.m, all[p.k:], api.OK)
		isMend(t, l, p, all, api.OK)
		isRight(t, l, p, true, api.OK)
		isSums(t, over[:p.k], p.m, paperSums(copied(over[:p.k]), p.m), api.OK)
		mends(t, over, p)
		isRight(t, over, p, paperRight(over, p.k), api.OK)
		mends(t, slices.Repeat([][]byte{memory}, p.k+p.m), p)
		for i := range p.m {
			l[i] = l[i][:0]
		}
		isMend(t, l, p, all, api.OK)
		if !bytes.Equal(memory, before) {
			t.Errorf("rows in one memory, %d, %d, were changed", p.k, p.m)
		}
	}
}
