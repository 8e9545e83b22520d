package volume_test

import (
	"bytes"
	"encoding/hex"
	"math"
	"strings"
	"testing"

	"garner/api"
	"garner/volume"
)

// TestP12_2Examples is the chapter's examples, with the file byte by byte, worked out by hand.
func TestP12_2Examples(t *testing.T) {
	x := begun(t, 1000, 7)
	x.has(api.Needle{Key: 1, Cookie: 5, Data: []byte("ab")})
	isGot(t, "there", x.v, 1, 5, []byte("ab"), api.OK)
	isGot(t, "a wrong cookie", x.v, 1, 6, nil, api.ErrCook)
	isGot(t, "nothing there", x.v, 2, 0, nil, api.ErrNone)
	if size, dirt := x.v.Size(), x.v.Dirt(); size != 40 || dirt != 0 {
		t.Errorf("Size is %d, Dirt is %d", size, dirt)
	}
	x.has(api.Needle{Key: 1, Cookie: 5, Dead: true})
	isGot(t, "a mark", x.v, 1, 5, nil, api.ErrDead)
	is(t, "Put behind a mark", x.put(api.Needle{Key: 1, Cookie: 5, Data: []byte("xy")}), api.ErrDead)
	if size, dirt := x.v.Size(), x.v.Dirt(); size != 72 || dirt != 32 {
		t.Errorf("Size is %d, Dirt is %d", size, dirt)
	}
	want, _ := hex.DecodeString(strings.ReplaceAll("67760100 00000007"+
		"6e640000 0000000000000001 00000005 00000002 8a584d36 6162 9e83486d 0000"+
		"6e640100 0000000000000001 00000005 00000000 8b049afb 00000000 00000000", " ", ""))
	if b, e := x.d.Read("v00000007.dat"); e != api.OK || !bytes.Equal(b, want) {
		t.Errorf("the file is %x, error %d, not %x", b, e, want)
	}
}

// TestP12_2 is volumes of many needles, living and Dead, of every size, told on paper behind each Put.
func TestP12_2(t *testing.T) {
	x := begun(t, 1<<20, 7)
	for i := range 40 {
		// The keys go up and down, so that the order of the file is another one than theirs.
		key := uint64(i * 17 % 41)
		x.has(living(key, uint32(i), i*23%300))
		if i%3 == 0 {
			x.has(dead(key, uint32(i+i%2)))
		}
		if i%5 == 0 {
			x.has(dead(key+1000, 1))
		}
	}
	x.anew()
	x.has(living(500, 1, 0))
}

// edges are keys and cookies: 0, the greatest, such as tell places apart.
func edges() []api.Place {
	var l []api.Place
	for i, key := range []uint64{0, 1, 2, 255, 256, 1<<32 - 1, 1 << 32, 1<<62 + 1, 1<<63 - 1, 1 << 63, math.MaxUint64 - 1, math.MaxUint64} {
		cookies := []uint32{0, 1, math.MaxUint32, 1 << 31, 255, math.MaxUint32 - 1}
		l = append(l, api.Place{Key: key, Cookie: cookies[i%6]}, api.Place{Key: key, Cookie: cookies[(i+1)%6]})
	}
	return l
}

// TestP12_2Keys is keys and cookies that are 0, and the greatest of their types, living and Dead.
func TestP12_2Keys(t *testing.T) {
	x, y := begun(t, 1<<20, 99999999), begun(t, 1<<20, 0)
	for i, p := range edges() {
		x.put(living(p.Key, p.Cookie, i))
		y.put(dead(p.Key, p.Cookie))
	}
	for i, p := range edges() {
		if i%4 > 1 {
			x.put(dead(p.Key, p.Cookie))
		}
		y.put(living(p.Key, p.Cookie, i))
	}
	x.anew()
	y.anew()
	if n, m := len(x.v.Places()), len(y.v.Places()); n != 12 || m != 12 {
		t.Errorf("%d and %d keys", n, m)
	}
}

// TestP12_2Sizes is Data of no byte, of the most that a needle has, of lengths at each place modulo 8.
func TestP12_2Sizes(t *testing.T) {
	x := begun(t, 1<<20, 1)
	for i, n := range []int{0, 1, 2, 3, 4, 5, 6, 7, 8, 9, 12, 13, api.MaxNeedle, api.MaxNeedle - 1, 0, api.MaxNeedle - 4} {
		x.has(living(uint64(i), 9, n))
	}
	x.has(api.Needle{Key: 100, Data: []byte{}})
	x.has(api.Needle{Key: 101, Dead: true, Data: []byte{}})
	x.anew()
}

// TestP12_2Marks is a mark of a key that nothing was of, of one that is there, of one that has a mark; a key that is put again, ahead of its mark and behind it.
func TestP12_2Marks(t *testing.T) {
	x := begun(t, 1<<20, 1)
	x.has(dead(1, 5))
	is(t, "a second mark", x.put(dead(1, 5)), api.ErrDead)
	is(t, "a second mark, another cookie", x.put(dead(1, 6)), api.ErrDead)
	is(t, "living behind a mark", x.put(living(1, 5, 4)), api.ErrDead)
	is(t, "living behind a mark, another cookie", x.put(living(1, 6, 0)), api.ErrDead)
	isGot(t, "a mark", x.v, 1, 5, nil, api.ErrDead)
	isGot(t, "a mark, another cookie", x.v, 1, 6, nil, api.ErrDead)

	x.has(living(2, 5, 10))
	is(t, "living again", x.put(living(2, 5, 10)), api.ErrHas)
	is(t, "living again, other Data", x.put(living(2, 5, 11)), api.ErrHas)
	is(t, "living again, another cookie", x.put(living(2, 6, 10)), api.ErrHas)
	// A mark's cookie is its own: none is asked for.
	x.has(dead(2, 77))
	isGot(t, "a mark of another cookie", x.v, 2, 5, nil, api.ErrDead)
	isGot(t, "a mark of another cookie", x.v, 2, 77, nil, api.ErrDead)
	is(t, "living behind a mark", x.put(living(2, 5, 10)), api.ErrDead)
	is(t, "a second mark", x.put(dead(2, 5)), api.ErrDead)
	if p := x.v.Places()[1]; p != (api.Place{Key: 2, At: 8 + 32 + 40, N: 32, Cookie: 77, Dead: true}) {
		t.Errorf("the mark is %v", p)
	}
	if dirt := x.v.Dirt(); dirt != 40 {
		t.Errorf("Dirt is %d", dirt)
	}
	x.anew()
	is(t, "living behind a mark, opened anew", x.put(living(2, 5, 10)), api.ErrDead)
	is(t, "living again, opened anew", x.put(living(1, 5, 10)), api.ErrDead)
}

// TestP12_2Most is a file of MaxVolume bytes: the last needle fits just, and one whose Data is 1 byte longer does not; no other one comes behind.
func TestP12_2Most(t *testing.T) {
	d := made(t, 1<<23)
	v, e := volume.Create(d, 7)
	is(t, "Create", e, api.OK)
	whole := headOf(7)
	for key := range uint64(63) {
		n := living(key, 3, api.MaxNeedle)
		is(t, "Put", v.Put(n), api.OK)
		whole = append(whole, laid(n)...)
	}
	left := api.MaxVolume - len(whole)
	fits := living(63, 4, left-28)
	if sizeOf(left-28) != left || sizeOf(left-27) <= left {
		t.Fatalf("%d bytes are left", left)
	}
	for _, n := range []api.Needle{living(63, 4, left-27), living(64, 4, left-20), living(65, 4, api.MaxNeedle)} {
		is(t, "1 byte too long, or more", v.Put(n), api.ErrFull)
	}
	if size, _ := d.Size(named(7)); size != len(whole) || v.Size() != size {
		t.Errorf("%d bytes, of which Size tells %d", size, v.Size())
	}
	is(t, "just as much as fits", v.Put(fits), api.OK)
	whole = append(whole, laid(fits)...)
	for _, n := range []api.Needle{{Key: 64}, dead(65, 1), dead(1, 3), living(66, 4, 1), living(67, 4, api.MaxNeedle)} {
		is(t, "one more", v.Put(n), api.ErrFull)
	}
	is(t, "what is there", v.Put(living(5, 3, 0)), api.ErrHas)
	is(t, "too long", v.Put(living(5, 3, api.MaxNeedle+1)), api.ErrLong)
	w, _ := opened(7, whole, len(whole))
	x := &pair{t, d, 1 << 23, 7, v, w}
	x.agrees("the most")
	if v.Size() != api.MaxVolume || v.Dirt() != 0 {
		t.Errorf("Size is %d, Dirt is %d", v.Size(), v.Dirt())
	}
}

// TestP12_2Above is a file that others made longer than MaxVolume: it is read, and nothing is put any more.
func TestP12_2Above(t *testing.T) {
	b := headOf(7)
	for key := range uint64(64) {
		b = append(b, laid(living(key, 3, api.MaxNeedle))...)
	}
	d := made(t, 1<<23)
	lay(t, d, named(7), b, len(b))
	v, e := volume.Open(d, 7)
	is(t, "Open", e, api.OK)
	w, _ := opened(7, b, len(b))
	x := &pair{t, d, 1 << 23, 7, v, w}
	x.agrees("above the most")
	for _, n := range []api.Needle{dead(1, 1), dead(100, 1), living(100, 1, 0)} {
		is(t, "above the most", v.Put(n), api.ErrFull)
	}
}

// TestP12_2Room is a disk without room for a needle: nothing is laid, and what takes less is, till there is none for that either.
func TestP12_2Room(t *testing.T) {
	for room := 8; room < 150; room++ {
		x := begun(t, room, 7)
		for i, n := range []int{5, 20, 0, 12, 4, 5, 0} {
			x.put(living(uint64(i), 1, n))
			x.put(dead(uint64(i), 1))
		}
		x.anew()
		x.put(living(100, 1, 0))
	}
	x := begun(t, 8+32+31, 7)
	x.has(living(1, 5, 3))
	c := x.d.Copy()
	is(t, "1 byte too few", x.put(living(2, 5, 3)), api.ErrFull)
	is(t, "1 byte too few for a mark", x.put(dead(1, 5)), api.ErrFull)
	alike(t, "1 byte too few", x.d, c)
	isGot(t, "no mark was laid", x.v, 1, 5, living(1, 5, 3).Data, api.OK)
	isGot(t, "no needle was laid", x.v, 2, 5, nil, api.ErrNone)
	lay(t, x.d, "other", make([]byte, 31), 31)
	is(t, "no byte left", x.put(dead(1, 5)), api.ErrFull)
	is(t, "Remove", x.d.Remove("other"), api.OK)

	// As many files as a disk may have are no hindrance to one that is there.
	d := made(t, 1<<20)
	x = created(t, d, 1<<20, 7)
	for n := range api.MaxFiles - 1 {
		lay(t, d, "file "+string(rune(0x4e00+n)), nil, 0)
	}
	x.has(living(1, 5, 3))
}

// TestP12_2Refused is needles that chapter 11 refuses: nothing is done.
func TestP12_2Refused(t *testing.T) {
	x := begun(t, 1<<20, 7)
	for range 2 {
		for _, n := range []int{1, 2, 100, api.MaxNeedle, api.MaxNeedle + 1} {
			is(t, "Dead with Data", x.put(api.Needle{Key: 3, Cookie: 4, Dead: true, Data: make([]byte, n)}), api.ErrArg)
		}
		for _, n := range []int{1, 8, 1 << 17} {
			is(t, "too much Data", x.put(api.Needle{Key: 3, Cookie: 4, Data: make([]byte, api.MaxNeedle+n)}), api.ErrLong)
		}
		if x.v.Size() == 8 {
			x.has(living(2, 4, 5))
		}
	}
}

// TestP12_2Order is which error is named first, where more than one thing is wrong.
func TestP12_2Order(t *testing.T) {
	x := begun(t, 8+3*32, 7)
	x.has(living(1, 5, 4))
	x.has(dead(2, 5))
	x.has(living(3, 5, 4))
	wrong, long := make([]byte, 1), make([]byte, api.MaxNeedle+1)
	for _, key := range []uint64{1, 2, 3, 4} {
		is(t, "Dead with Data, and no room", x.put(api.Needle{Key: key, Dead: true, Data: wrong}), api.ErrArg)
		is(t, "Dead with too much Data, and no room", x.put(api.Needle{Key: key, Dead: true, Data: long}), api.ErrArg)
		is(t, "too much Data, and no room", x.put(api.Needle{Key: key, Data: long}), api.ErrLong)
	}
	is(t, "a mark, and no room", x.put(dead(2, 5)), api.ErrDead)
	is(t, "living behind a mark, and no room", x.put(living(2, 5, 100)), api.ErrDead)
	is(t, "what is there, and no room", x.put(living(1, 5, 4)), api.ErrHas)
	is(t, "a mark of what is there, and no room", x.put(dead(1, 5)), api.ErrFull)
	is(t, "a key that is not there, and no room", x.put(living(4, 5, 0)), api.ErrFull)
	var v *volume.Vol
	is(t, "no volume, Dead with Data", v.Put(api.Needle{Dead: true, Data: wrong}), api.ErrArg)
	is(t, "no volume, too much Data", v.Put(api.Needle{Data: long}), api.ErrArg)
}

// TestP12_7Nil is a volume that is none.
func TestP12_7Nil(t *testing.T) {
	var none *volume.Vol
	// One that was neither Created nor Opened has no disk: nothing is there either.
	for _, v := range []*volume.Vol{none, {}} {
		for _, n := range []api.Needle{{}, living(1, 2, 3), dead(1, 2)} {
			is(t, "Put", v.Put(n), api.ErrArg)
		}
		for _, p := range edges() {
			isGot(t, "no volume", v, p.Key, p.Cookie, nil, api.ErrNone)
		}
		if l, m, size, dirt := v.Places(), v.Needles(), v.Size(), v.Dirt(); len(l) != 0 || len(m) != 0 || size != 0 || dirt != 0 {
			t.Errorf("Places %v, Needles %v, Size %d, Dirt %d", l, m, size, dirt)
		}
	}
}
