package frame_test

import (
	"bytes"
	"slices"
	"testing"

	"garner/api"
	"garner/frame"
)

// inRoom is a row with other bytes in the spare room behind its end, and all of that room.
func inRoom(b []byte) ([]byte, []byte) {
	whole := slices.Concat(b, bytes.Repeat([]byte{0xaa}, 24))
	return whole[:len(b)], whole
}

// spoil writes into all of a list, its spare room too.
func spoil(b []byte) {
	b = b[:cap(b)]
	for i := range b {
		b[i] ^= 0x5a
	}
}

// arguments are rows for all three calls: records, torn ones, wrong ones, none.
func arguments() [][]byte {
	wrong := record([]byte{1, 2, 3})
	wrong[9] ^= 1
	return [][]byte{nil, {0}, row(7, 31), record(nil), record([]byte{0xab}), record(row(100, 32)), wrong, joined(rows()), joined(rows())[:100], told(1<<31, 0), told(9, 0)}
}

// TestP2_6Arguments asks whether what is handed in, and the room behind it, stays as it is.
func TestP2_6Arguments(t *testing.T) {
	for name, call := range map[string]func([]byte){
		"Encode": func(b []byte) { frame.Encode(b) },
		"Decode": func(b []byte) { frame.Decode(b) },
		"Scan":   func(b []byte) { frame.Scan(b) },
	} {
		for _, a := range arguments() {
			b, whole := inRoom(a)
			before := bytes.Clone(whole)
			call(b)
			if !bytes.Equal(whole, before) {
				t.Errorf("%s of %x made %x of %x", name, a, whole, before)
			}
		}
	}
}

// TestP2_6RoomBehind asks whether what stands behind a row's end has no say.
func TestP2_6RoomBehind(t *testing.T) {
	whole := joined(rows())
	for n := range len(whole) + 1 {
		bare := slices.Clip(bytes.Clone(whole[:n]))
		x, e := frame.Encode(whole[:n])
		if want, wantE := frame.Encode(bare); e != wantE || !bytes.Equal(x, want) {
			t.Errorf("Encode of %d bytes: %x %d", n, x, e)
		}
		p, k, e := frame.Decode(whole[:n])
		if want, wantK, wantE := frame.Decode(bare); e != wantE || k != wantK || !bytes.Equal(p, want) {
			t.Errorf("Decode of %d bytes: %x %d %d", n, p, k, e)
		}
		l, k, e := frame.Scan(whole[:n])
		if want, wantK, wantE := frame.Scan(bare); e != wantE || k != wantK || !slices.EqualFunc(l, want, bytes.Equal) {
			t.Errorf("Scan of %d bytes: %x %d %d", n, l, k, e)
		}
	}
}

// stays asks whether an answer stays, and comes again, when another answer and then the argument are spoiled.
func stays(t *testing.T, name string, a []byte, call func([]byte) []byte) {
	t.Helper()
	b, whole := inRoom(a)
	first := call(b)
	before := bytes.Clone(first)
	spoil(call(b))
	if !bytes.Equal(first, before) {
		t.Errorf("%s of %d bytes: an answer shares memory with another one", name, len(a))
	}
	third := call(b)
	if !bytes.Equal(third, before) {
		t.Errorf("%s of %d bytes: an answer hangs on what was done to another one", name, len(a))
	}
	kept := bytes.Clone(whole)
	spoil(call(b))
	if !bytes.Equal(whole, kept) {
		t.Errorf("%s of %d bytes: an answer writes into its argument", name, len(a))
	}
	spoil(whole)
	if !bytes.Equal(first, before) || !bytes.Equal(third, before) {
		t.Errorf("%s of %d bytes: an answer shares memory with its argument", name, len(a))
	}
}

// TestP2_6Answers asks whether what is answered is new memory.
func TestP2_6Answers(t *testing.T) {
	for _, a := range arguments() {
		stays(t, "Encode", a, func(b []byte) []byte { x, _ := frame.Encode(b); return x })
		stays(t, "Decode", a, func(b []byte) []byte { p, _, _ := frame.Decode(b); return p })
	}
	for i := range rows() {
		stays(t, "Scan", joined(rows()), func(b []byte) []byte { l, _, _ := frame.Scan(b); return l[i] })
	}
}

// TestP2_6Lists asks whether no two records of one answer share memory, nor two answers the list of them.
func TestP2_6Lists(t *testing.T) {
	b := joined(rows())
	for i := range rows() {
		l, n, e := frame.Scan(b)
		spoil(l[i])
		_ = append(l[i], 1, 2, 3, 4)
		want := rows()
		l[i] = want[i]
		if e != api.OK || n != len(b) || !slices.EqualFunc(l, want, bytes.Equal) {
			t.Errorf("record %d shares memory with another one", i)
		}
	}
	first, _, _ := frame.Scan(b)
	second, _, _ := frame.Scan(b)
	second = second[:cap(second)]
	for i := range second {
		second[i] = []byte{9}
	}
	if !slices.EqualFunc(first, rows(), bytes.Equal) {
		t.Error("two answers share their list")
	}
	isScanned(t, "again", b, rows(), api.OK)
}

// TestP2_6Apart asks whether calls of other bytes between them change no answer.
func TestP2_6Apart(t *testing.T) {
	for _, a := range arguments() {
		p, n, e := frame.Decode(a)
		before := bytes.Clone(p)
		for _, other := range arguments() {
			frame.Encode(other)
			frame.Decode(other)
			frame.Scan(other)
		}
		if q, m, f := frame.Decode(a); !bytes.Equal(p, before) || !bytes.Equal(q, before) || n != m || e != f {
			t.Errorf("%x: %x %d %d", a, q, m, f)
		}
	}
}
