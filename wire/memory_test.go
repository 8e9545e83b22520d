package wire_test

import (
	"bytes"
	"slices"
	"testing"

	"garner/api"
	"garner/wire"
)

// inRoom is a list with other things in the spare room behind its end, and all of that room.
func inRoom[T any](l []T, behind T) ([]T, []T) {
	whole := slices.Concat(l, slices.Repeat([]T{behind}, 24))
	return whole[:len(l)], whole
}

// spoil writes into all of a list, its spare room too.
func spoil[T byte | int](l []T) {
	l = l[:cap(l)]
	for i := range l {
		l[i] ^= 0x5a
	}
}

// copyOf is a message that shares no memory.
func copyOf(m api.Msg) api.Msg {
	m.Nums = slices.Clone(m.Nums)
	m.Data = bytes.Clone(m.Data)
	return m
}

// rows are what Decode is given: records of messages, with something behind, torn ones, wrong ones, none.
func rows() [][]byte {
	wrong := record(bytesOf(api.Msg{Nums: []int{1}, Data: []byte{2}}))
	wrong[9] ^= 1
	l := [][]byte{nil, {0}, wrong, wrong[:12], record(nil), record(make([]byte, 6)), record([]byte{0, 0, 0, 9, 1, 2})}
	for _, m := range small() {
		b := record(bytesOf(m))
		l = append(l, b, slices.Concat(b, row(5, 21)))
	}
	return l
}

// TestP3_4Encode asks whether Encode changes neither lists nor the room behind them, and whether that room has no say.
func TestP3_4Encode(t *testing.T) {
	wrong := []api.Msg{{From: -1, Nums: []int{1}, Data: []byte{2}}, {Nums: make([]int, api.MaxNums+1)}, {Data: make([]byte, maxData+1)}}
	for _, m := range append(all(), wrong...) {
		want, wantE := wire.Encode(m)
		nums, allNums := inRoom(m.Nums, 77)
		data, allData := inRoom(m.Data, 0xaa)
		beforeNums, beforeData := slices.Clone(allNums), bytes.Clone(allData)
		b, e := wire.Encode(api.Msg{From: m.From, To: m.To, Kind: m.Kind, Nums: nums, Data: data})
		if !bytes.Equal(b, want) || e != wantE {
			t.Errorf("%v: %x %d, not %x %d", m, b, e, want, wantE)
		}
		if !slices.Equal(allNums, beforeNums) || !bytes.Equal(allData, beforeData) {
			t.Errorf("%v: an argument is changed", m)
		}
		spoil(b)
		if !slices.Equal(allNums, beforeNums) || !bytes.Equal(allData, beforeData) {
			t.Errorf("%v: an answer shares memory with its argument", m)
		}
	}
}

// TestP3_4Encoded asks whether what Encode answers stays, and comes again, when another answer and then the argument are spoiled.
func TestP3_4Encoded(t *testing.T) {
	for _, m := range small() {
		a := copyOf(m)
		first, _ := wire.Encode(a)
		want := bytes.Clone(first)
		second, _ := wire.Encode(a)
		spoil(second)
		if !bytes.Equal(first, want) {
			t.Errorf("%v: two answers share memory", m)
		}
		if third, _ := wire.Encode(a); !bytes.Equal(third, want) {
			t.Errorf("%v: an answer hangs on what was done to another one", m)
		}
		spoil(a.Nums)
		spoil(a.Data)
		if !bytes.Equal(first, want) {
			t.Errorf("%v: an answer shares memory with its argument", m)
		}
	}
}

// TestP3_4Decode asks whether Decode changes neither its bytes nor the room behind them, and whether that room has no say.
func TestP3_4Decode(t *testing.T) {
	for _, r := range rows() {
		want, wantN, wantE := wire.Decode(r)
		b, whole := inRoom(r, 0xaa)
		before := bytes.Clone(whole)
		m, n, e := wire.Decode(b)
		if !same(m, want) || n != wantN || e != wantE {
			t.Errorf("%x: %v %d %d, not %v %d %d", r, m, n, e, want, wantN, wantE)
		}
		spoil(m.Nums)
		spoil(m.Data)
		if !bytes.Equal(whole, before) {
			t.Errorf("%x became %x", before, whole)
		}
	}
	whole := record(bytesOf(api.Msg{Nums: []int{1, 2}, Data: row(30, 22)}))
	for i := range whole {
		isRefused(t, "a torn record with its rest in the room behind", whole[:i], api.ErrShort)
	}
}

// TestP3_4Decoded asks whether a message stays, and comes again, when another answer and then the bytes are spoiled.
func TestP3_4Decoded(t *testing.T) {
	for _, r := range rows() {
		b := bytes.Clone(r)
		first, n, e := wire.Decode(b)
		want := copyOf(first)
		second, _, _ := wire.Decode(b)
		spoil(second.Nums)
		spoil(second.Data)
		if !same(first, want) {
			t.Errorf("%x: two answers share memory", r)
		}
		if third, thirdN, thirdE := wire.Decode(b); !same(third, want) || thirdN != n || thirdE != e {
			t.Errorf("%x: an answer hangs on what was done to another one", r)
		}
		spoil(b)
		if !same(first, want) {
			t.Errorf("%x: an answer shares memory with its argument", r)
		}
	}
}

// TestP3_4Apart asks whether calls of other things between them change no answer.
func TestP3_4Apart(t *testing.T) {
	for _, r := range rows() {
		m, n, e := wire.Decode(r)
		before := copyOf(m)
		for _, other := range small() {
			b, _ := wire.Encode(other)
			wire.Decode(b)
		}
		if again, againN, againE := wire.Decode(r); !same(m, before) || !same(again, before) || againN != n || againE != e {
			t.Errorf("%x: %v %d %d", r, again, againN, againE)
		}
	}
}
