package strip_test

import (
	"bytes"
	"fmt"
	"slices"
	"strings"
	"testing"

	"garner/api"
	"garner/strip"
)

// room is bytes with others in the room behind them: what a row, a whole or a file is handed in as.
func room(b []byte) []byte {
	return slices.Concat(b, bytes.Repeat([]byte{0xaa}, 40))[:len(b)]
}

// roomy are shards, each list of them and each row with others in the room behind; what is empty has room too.
func roomy(shards [][][]byte) [][][]byte {
	var l [][][]byte
	for _, rows := range shards {
		var list [][]byte
		for _, row := range rows {
			list = append(list, room(row))
		}
		for range 3 {
			list = append(list, room([]byte{1, 2, 3}))
		}
		l = append(l, list[:len(rows)])
	}
	behind := l
	for range 3 {
		behind = append(behind, [][]byte{room([]byte{4}), room([]byte{5})})
	}
	return behind[:len(l)]
}

// roomyPlaces are places with others in the room behind.
func roomyPlaces(l []api.Place) []api.Place {
	return slices.Concat(l, []api.Place{{Key: 1}, {Key: 1, At: -1}, {Key: 2}})[:len(l)]
}

// spoilBytes writes into bytes and the room behind them.
func spoilBytes(b []byte) {
	b = b[:cap(b)]
	for i := range b {
		b[i] ^= 0x5a
	}
}

// gift is what is handed in to one call, and what that answers, as lists of bytes.
type gift struct {
	name string
	// answer calls.
	answer func() ([][]byte, api.Errno)
	// all is all memory of what is handed in, room too, as text, and which list stands where.
	all func() string
	// spoil writes into all of it.
	spoil func()
}

// ofBytes is a gift of bytes.
func ofBytes(name string, b []byte, answer func(b []byte) ([][]byte, api.Errno)) *gift {
	b = room(b)
	return &gift{
		name:   name,
		answer: func() ([][]byte, api.Errno) { return answer(b) },
		all:    func() string { return fmt.Sprintf("%x", b[:cap(b)]) },
		spoil:  func() { spoilBytes(b) },
	}
}

// ofShards is a gift of shards.
func ofShards(name string, shards [][][]byte, answer func(shards [][][]byte) ([][]byte, api.Errno)) *gift {
	shards = roomy(shards)
	return &gift{
		name:   name,
		answer: func() ([][]byte, api.Errno) { return answer(shards) },
		all: func() string {
			var s strings.Builder
			for _, rows := range shards[:cap(shards)] {
				fmt.Fprintf(&s, "%p %d\n", rows[:cap(rows)], len(rows))
				for _, row := range rows[:cap(rows)] {
					fmt.Fprintf(&s, "%p %d %x\n", row[:cap(row)], len(row), row[:cap(row)])
				}
			}
			return s.String()
		},
		spoil: func() {
			for i, rows := range shards[:cap(shards)] {
				for r, row := range rows[:cap(rows)] {
					spoilBytes(row)
					rows[:cap(rows)][r] = []byte{0x5a}
				}
				shards[:cap(shards)][i] = [][]byte{{0x5a}}
			}
		},
	}
}

// placesAsBytes are places as lists of bytes.
func placesAsBytes(l []api.Place) [][]byte {
	var b [][]byte
	for _, p := range l {
		b = append(b, fmt.Append(nil, p))
	}
	return b
}

// ofPlaces is a gift of places.
func ofPlaces(name string, l []api.Place, answer func(l []api.Place) ([][]byte, api.Errno)) *gift {
	l = roomyPlaces(l)
	return &gift{
		name:   name,
		answer: func() ([][]byte, api.Errno) { return answer(l) },
		all:    func() string { return fmt.Sprint(l[:cap(l)]) },
		spoil: func() {
			for i := range l[:cap(l)] {
				l[:cap(l)][i] = api.Place{Key: 99, At: 99, N: 99, Cookie: 99, Dead: true}
			}
		},
	}
}

// one is an answer of one list of bytes; nothing, beside an error.
func one(b []byte, e api.Errno) ([][]byte, api.Errno) {
	if e != api.OK {
		return nil, e
	}
	return [][]byte{b}, e
}

// gifts are all sorts of them, of each call, such as are answered and such as are refused; the same ones each time.
func gifts() []*gift {
	x := drawn(91)
	var l []*gift
	for _, p := range []pair{{1, 0}, {1, 2}, {2, 1}, {3, 2}, {10, 4}, {14, 0}, {0, 1}} {
		for _, size := range []int{0, 1, 16, 33, 16 * p.k, 16*p.k*3 + 5} {
			name := fmt.Sprintf("%d, %d, %d", p.k, p.m, size)
			l = append(l, ofBytes("Cut "+name, x.row(size), func(b []byte) ([][]byte, api.Errno) { return strip.Cut(b, p.k, p.m) }))
			if p.k > 0 && size > 0 {
				l = append(l, partsAndMends(&x, p, size)...)
			}
		}
	}
	for _, n := range []int{0, 1, 2, 7} {
		rows := x.row(16 * n)
		l = append(l, filesAndReads(rows)...)
	}
	for _, places := range [][]api.Place{nil, places()[:1], places(), {{Key: 1}, {Key: 1}}} {
		l = append(l,
			ofPlaces("Index", places, func(l []api.Place) ([][]byte, api.Errno) { return one(strip.Index(l)) }),
			ofPlaces("Find", places, func(l []api.Place) ([][]byte, api.Errno) {
				p, ok := strip.Find(l, 1<<62+1)
				return placesAsBytes([]api.Place{p}), map[bool]api.Errno{false: api.ErrNone}[ok]
			}),
			ofBytes("ReadIndex", record(inside(places)), func(b []byte) ([][]byte, api.Errno) {
				got, e := strip.ReadIndex(b)
				return placesAsBytes(got), e
			}))
	}
	return l
}

// partsAndMends are gifts to Part and Mend.
func partsAndMends(x *drawn, p pair, size int) []*gift {
	w := x.whole(p, size)
	other := w.without(nil)
	for i := range other {
		other[i][0] = x.row(16)
	}
	odd := w.without(nil)
	odd[p.k+p.m-1][0] = x.row(15)
	var l []*gift
	for name, shards := range map[string][][][]byte{"all": w.without(nil), "lost": w.without(x.lost(p.k+p.m, p.m)), "torn": w.torn(x, p.m), "other": other, "too few": w.torn(x, p.m+1), "odd": odd} {
		name = fmt.Sprintf("%d, %d, %d, %s", p.k, p.m, size, name)
		for _, c := range [][2]int{{0, size}, {size / 2, (size + 1) / 2}, {min(16, size), min(16, size-min(16, size))}, {size, 0}, {0, 1}} {
			l = append(l, ofShards(fmt.Sprint("Part ", name, c), shards, func(shards [][][]byte) ([][]byte, api.Errno) {
				return one(strip.Part(shards, p.k, p.m, size, c[0], c[1]))
			}))
		}
		l = append(l, ofShards("Mend "+name, shards, func(shards [][][]byte) ([][]byte, api.Errno) {
			return strip.Mend(shards, p.k, p.m, size)
		}))
	}
	slices.SortFunc(l, func(a, b *gift) int { return strings.Compare(a.name, b.name) })
	return l
}

// filesAndReads are gifts to File and Read.
func filesAndReads(rows []byte) []*gift {
	b := paperFile(1, 2, 40, rows)
	damaged := bytes.Clone(b)
	damaged[len(damaged)-5] ^= 1
	read := func(b []byte) ([][]byte, api.Errno) {
		_, _, _, rows, e := strip.Read(b)
		return rows, e
	}
	return []*gift{
		ofBytes("File", rows, func(rows []byte) ([][]byte, api.Errno) { return one(strip.File(1, 2, 40, rows)) }),
		ofBytes("File that is refused", rows, func(rows []byte) ([][]byte, api.Errno) { return one(strip.File(1, 2, 0, rows)) }),
		ofBytes("Read", b, read),
		ofBytes("Read of a damaged file", damaged, read),
		ofBytes("Read of a torn file", b[:len(b)-1], read),
	}
}

// snapshot are lists of bytes in new memory.
func snapshot(l [][]byte) [][]byte {
	c := make([][]byte, len(l))
	for i, b := range l {
		c[i] = bytes.Clone(b)
	}
	return c
}

// isSame asks whether two ways led to the same bytes.
func isSame(t *testing.T, name string, a, b [][]byte) {
	t.Helper()
	if !same(a, b) {
		t.Fatalf("%s: %x and %x", name, few(a), few(b))
	}
}

// TestP14_7Arguments asks whether what is handed in stays as it is, list by list, with the room behind each one.
func TestP14_7Arguments(t *testing.T) {
	for _, g := range gifts() {
		before := g.all()
		g.answer()
		if g.all() != before {
			t.Errorf("%s: what was handed in was changed", g.name)
		}
	}
}

// TestP14_7Room asks whether what stands behind the ends of what is handed in has no say, and stands behind no answer's end.
func TestP14_7Room(t *testing.T) {
	x := drawn(92)
	for _, p := range []pair{{1, 1}, {2, 1}, {3, 2}, {10, 4}} {
		for _, size := range []int{1, 40, 16*p.k*2 - 3} {
			w := x.whole(p, size)
			for _, shards := range [][][][]byte{w.without(nil), w.without(x.lost(p.k+p.m, p.m)), w.torn(&x, p.m)} {
				w.isBytes(t, roomy(shards), 0, size)
				w.isBytes(t, slices.Clip(copied(shards)), 0, size)
				w.isWhole(t, roomy(shards))
			}
			isCut(t, room(w.b), p, w.shards, api.OK)
		}
	}
	for _, g := range gifts() {
		got, _ := g.answer()
		for _, b := range got {
			if bytes.Contains(b[len(b):cap(b)], []byte{0xaa, 0xaa, 0xaa, 0xaa}) {
				t.Errorf("%s: room that was handed in stands behind the answer", g.name)
			}
		}
	}
}

// TestP14_7Answers asks whether an answer, with its spare room, is new memory: what is written there is not seen in what was handed in.
func TestP14_7Answers(t *testing.T) {
	for _, g := range gifts() {
		before := g.all()
		got, _ := g.answer()
		for i := range got {
			spoilBytes(got[i])
			if g.all() != before {
				t.Fatalf("%s: the list %d of the answer shares memory with what was handed in", g.name, i)
			}
		}
		got = got[:cap(got)]
		for i := range got {
			got[i] = []byte{0x5a}
		}
		if g.all() != before {
			t.Fatalf("%s: the list of the answer shares memory with what was handed in", g.name)
		}
	}
}

// TestP14_7Lists asks whether the lists of an answer share no memory: what is written into one and the room behind it is not seen in another.
func TestP14_7Lists(t *testing.T) {
	for _, g := range gifts() {
		got, _ := g.answer()
		want := snapshot(got)
		for i := range got {
			spoilBytes(got[i])
			spoilBytes(want[i][:len(want[i]):len(want[i])])
			isSame(t, fmt.Sprintf("%s: the list %d of the answer was written to", g.name, i), got, want)
		}
	}
}

// TestP14_7Kept asks whether an answer stays what it is, and the next one too, when what was handed in is spoiled, and another answer.
func TestP14_7Kept(t *testing.T) {
	again := gifts()
	for n, g := range gifts() {
		first, _ := g.answer()
		want := snapshot(first)
		other, e := g.answer()
		isSame(t, g.name+" again", other, want)
		for _, b := range other {
			spoilBytes(b)
		}
		isSame(t, g.name+" behind one that was spoiled", first, want)
		third, _ := g.answer()
		isSame(t, g.name+" once more", third, want)
		g.spoil()
		isSame(t, g.name+" behind a gift that was spoiled", first, want)
		isSame(t, g.name+" behind a gift that was spoiled", third, want)
		last, lastE := again[n].answer()
		isSame(t, g.name+", the same gift", last, want)
		if e != lastE {
			t.Errorf("%s: %d, then %d", g.name, e, lastE)
		}
	}
}

// TestP14_7Stays asks whether answers stay what they are, whatever is called later.
func TestP14_7Stays(t *testing.T) {
	var got, wants [][][]byte
	for range 2 {
		for _, g := range gifts() {
			l, _ := g.answer()
			got, wants = append(got, l), append(wants, snapshot(l))
		}
	}
	for i := range got {
		isSame(t, "an answer of before", got[i], wants[i])
	}
}

// TestP14_7Places asks whether the places that ReadIndex answers, with the room behind them, are new memory each time.
func TestP14_7Places(t *testing.T) {
	b := record(inside(places()))
	first, _ := strip.ReadIndex(b)
	other, _ := strip.ReadIndex(b)
	other = other[:cap(other)]
	for i := range other {
		other[i] = api.Place{Key: 99, At: -1, N: -1, Cookie: 9, Dead: true}
	}
	if !slices.Equal(first, places()) {
		t.Error("two answers share memory")
	}
	p, _ := strip.Find(first, 1<<62+1)
	was := p
	p.At, p.N = -5, -5
	isFind(t, first, 1<<62+1, was, true)
}

// TestP14_7OneMemory is shards whose rows lie one behind the other in one memory, each in the room behind the one ahead, ones of which some are one and the same, and the list of one shard standing at each place.
func TestP14_7OneMemory(t *testing.T) {
	x := drawn(93)
	for _, p := range []pair{{1, 1}, {2, 1}, {3, 2}, {10, 4}} {
		w := x.whole(p, 16*p.k*3)
		memory := bytes.Join(w.shards, nil)
		before := bytes.Clone(memory)
		shards := make([][][]byte, p.k+p.m)
		for i := range shards {
			for r := range 3 {
				shards[i] = append(shards[i], memory[(i*3+r)*16:][:16])
			}
		}
		for r := range 3 {
			for _, i := range x.lost(p.k+p.m, p.m) {
				shards[i][r] = shards[i][r][:0]
			}
		}
		w.isBytes(t, shards, 0, len(w.b))
		w.isWhole(t, shards)
		if !bytes.Equal(memory, before) {
			t.Errorf("shards in one memory, %d, %d, were changed", p.k, p.m)
		}
		alike := slices.Repeat([][][]byte{{memory[:16], memory[3:19], memory[3:19]}}, p.k+p.m)
		want, e := paperMend(copied(alike), p, len(w.b))
		isMend(t, alike, p, len(w.b), want, e)
		part, e := paperPart(copied(alike), p, len(w.b), 5, 40)
		isPart(t, alike, p, len(w.b), 5, 40, part, e)
	}
}
