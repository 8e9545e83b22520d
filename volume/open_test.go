package volume_test

import (
	"bytes"
	"slices"
	"testing"

	"garner/api"
	"garner/volume"
)

// isForm asks Open of a file for ErrForm; the file stays as it is.
func isForm(t *testing.T, name string, id int, b []byte, last int) {
	t.Helper()
	d := made(t, 1<<20)
	lay(t, d, named(id), b, last)
	c := d.Copy()
	v, e := volume.Open(d, id)
	isNothing(t, name, v, e, api.ErrForm)
	alike(t, name, d, c)
}

// TestP12_1OpenRefused is Open without a disk, without an id, without a file.
func TestP12_1OpenRefused(t *testing.T) {
	for _, id := range append(ids(), wrongIDs()...) {
		v, e := volume.Open(nil, id)
		isNothing(t, "no disk", v, e, api.ErrArg)
	}
	d := made(t, 1<<20)
	lay(t, d, named(8), filed(8, living(1, 2, 3)), 8)
	c := d.Copy()
	for _, id := range wrongIDs() {
		v, e := volume.Open(d, id)
		isNothing(t, "no id", v, e, api.ErrArg)
	}
	for _, id := range ids() {
		v, e := volume.Open(d, id)
		isNothing(t, "no file", v, e, api.ErrNone)
	}
	alike(t, "no file", d, c)
	v, e := volume.Open(made(t, 0), 7)
	isNothing(t, "an empty disk", v, e, api.ErrNone)
}

// TestP12_1OpenHead is files that are shorter than the head, that begin with another one, or with another volume's.
func TestP12_1OpenHead(t *testing.T) {
	for _, id := range ids() {
		whole := filed(id, living(1, 2, 3), dead(4, 5))
		for n := range 8 {
			// Of the id 0 all that lacks is bytes 0.
			for last := range n + 1 {
				isForm(t, "shorter than the head", id, whole[:n], last)
			}
		}
		for _, other := range ids() {
			if other != id {
				isForm(t, "another volume's head", id, filed(other, living(1, 2, 3)), 8)
				isForm(t, "another volume's head alone", id, headOf(other), 8)
			}
		}
		over(t, "the head alone", id, headOf(id), 8)
		over(t, "the head alone, which does not last", id, headOf(id), 0)
	}
	for _, id := range []int{0, 7, 99999999} {
		for i := range 8 {
			for by := 1; by < 256; by++ {
				b := filed(id, living(1, 2, 3))
				b[i] ^= byte(by)
				isForm(t, "a byte of the head", id, b, len(b)*(i%2))
				isForm(t, "a byte of the head alone", id, b[:8], 0)
			}
		}
	}
	isForm(t, "a needle without a head", 7, laid(living(1, 2, 3)), 0)
	isForm(t, "zeros", 0, make([]byte, 100), 0)
}

// some is needles of several keys, one behind the other: living ones of sizes at all places modulo 8, marks, some of one key.
func some() []api.Needle {
	return []api.Needle{living(5, 1, 0), dead(3, 2), living(1, 3, 5), living(4, 4, 12), dead(4, 5), living(2, 6, 3), living(9, 7, 29), dead(7, 8), living(6, 9, 10)}
}

// TestP12_1Open is volumes of no, one and many needles, all of which last or none.
func TestP12_1Open(t *testing.T) {
	for n := range some() {
		b := filed(7, some()[:n]...)
		for _, last := range []int{0, 8, len(b) / 2, len(b)} {
			x := over(t, "needles", 7, b, min(last, len(b)))
			if size := x.v.Size(); size != len(b) {
				t.Errorf("%d of %d bytes are left", size, len(b))
			}
			x.has(living(100, 1, 7))
			x.has(dead(1, 1))
			x.anew()
		}
	}
	isRead := func(n api.Needle, at int) {
		t.Helper()
		x := over(t, "one needle", 7, filed(7, n), 0)
		if l := x.v.Places(); len(l) != 1 || l[0] != placeOf(n, at, sizeOf(len(n.Data))) {
			t.Errorf("Places are %v", l)
		}
	}
	for _, p := range edges() {
		isRead(dead(p.Key, p.Cookie), 8)
		isRead(living(p.Key, p.Cookie, int(p.Key%64)), 8)
	}
	isRead(living(1, 1, api.MaxNeedle), 8)
}

// TestP12_1Torn is files that end anywhere behind the head: what is torn is Cut, all that is whole is read.
func TestP12_1Torn(t *testing.T) {
	whole := filed(7, some()...)
	ends := []int{8}
	for _, n := range some() {
		ends = append(ends, ends[len(ends)-1]+sizeOf(len(n.Data)))
	}
	for n := 8; n <= len(whole); n++ {
		i, ok := slices.BinarySearch(ends, n)
		if !ok {
			i--
		}
		for _, last := range []int{0, ends[i], n} {
			x := over(t, "a file that ends early", 7, whole[:n], last)
			if size := x.v.Size(); size != ends[i] {
				t.Errorf("%d bytes of %d are left, not %d", size, n, ends[i])
			}
			want, _ := opened(7, filed(7, some()[:i]...), 0)
			isVolume(t, "a file that ends early", x.v, want)
			// What comes next is laid where the torn one was.
			x.has(living(50, 1, 9))
			crash(0, x)
		}
	}
}

// TestP12_1Left is bytes behind needles that are none, whatever stands behind those: the file is Cut there.
func TestP12_1Left(t *testing.T) {
	good := filed(7, some()...)
	next := laid(living(77, 1, 4))
	long := laid(living(77, 1, api.MaxNeedle+1))
	for _, left := range [][]byte{
		{0}, {0x6e}, {0x6e, 0x64}, make([]byte, 8), make([]byte, 31), make([]byte, 400), row(24, 3), row(500, 4), bytes.Repeat([]byte{255}, 64), headOf(7), filed(7, some()...), next[1:], next[8:], next[:31], long,
	} {
		for _, behind := range [][]byte{nil, next, make([]byte, 100)} {
			b := slices.Concat(good, left, behind)
			if len(left) == 31 && left[0] != 0 && len(behind) > 0 {
				// The byte that lacks is another one then: it is damaged, and what stands behind is read.
				continue
			}
			for _, last := range []int{0, len(good) - 1, len(good), len(good) + 1, len(b)} {
				x := over(t, "bytes that are no needle", 7, b, last)
				if size := x.v.Size(); size != len(good) {
					t.Errorf("%.40x behind: %d bytes are left, not %d", left, size, len(good))
				}
			}
		}
	}
}

// TestP12_1Rotten is Open of files of which one byte rotted, each of them: the head is none, a needle's head is no needle's (there the file is Cut), or a needle is damaged (what stands behind it is read).
func TestP12_1Rotten(t *testing.T) {
	whole := filed(7, some()...)
	at := 8
	for i, n := range some() {
		for k := range sizeOf(len(n.Data)) {
			for _, by := range []byte{1, 0x10, 0x80, 0xff} {
				b := bytes.Clone(whole)
				b[at+k] ^= by
				x := over(t, "a byte that rotted", 7, b, len(b))
				l := some()
				if k < 24 {
					want, _ := opened(7, filed(7, l[:i]...), 0)
					isVolume(t, "a needle's head rotted", x.v, want)
					x.has(living(50, 1, 9))
					continue
				}
				want, _ := opened(7, whole, 0)
				if places := x.v.Places(); !slices.Equal(places, want.places()) || x.v.Size() != len(whole) || x.v.Dirt() != want.dirt() {
					t.Errorf("the byte %d of %s rotted: Places are %v", k, show(n), places)
				}
				// Of 4 the mark counts, whichever of its two is damaged.
				wantE, cookE, putE := api.ErrSum, api.ErrCook, api.ErrHas
				if n.Dead || n.Key == 4 {
					wantE, cookE, putE = api.ErrDead, api.ErrDead, api.ErrDead
				}
				isGot(t, "a damaged one", x.v, n.Key, n.Cookie, nil, wantE)
				isGot(t, "a damaged one, a wrong cookie", x.v, n.Key, n.Cookie+1, nil, cookE)
				is(t, "a damaged one is one of its key", x.put(living(n.Key, n.Cookie, len(n.Data))), putE)
				if wantE == api.ErrSum {
					x.has(dead(n.Key, n.Cookie))
				}
			}
		}
		at += sizeOf(len(n.Data))
	}
}

// damaged is a needle's bytes with the last one changed, which the next one's head does not see.
func damaged(n api.Needle) []byte {
	b := laid(n)
	b[len(b)-1] ^= 0x40
	return b
}

// TestP12_1Twice is files in which a key has more than one needle, as no Put lays them, worked out by hand: a mark counts wherever it stands, the first one; without one the first needle, damaged or not.
func TestP12_1Twice(t *testing.T) {
	a, b := api.Needle{Key: 1, Cookie: 5, Data: []byte("first")}, api.Needle{Key: 1, Cookie: 6, Data: []byte("2nd")}
	m, n := dead(1, 7), dead(1, 8)
	for name, x := range map[string]struct {
		rows    [][]byte
		there   api.Place
		e       api.Errno // of Get with the cookie of what is there
		needles int
	}{
		"two needles":                         {[][]byte{laid(a), laid(b)}, api.Place{Key: 1, At: 8, N: 40, Cookie: 5}, api.OK, 1},
		"two needles, turned":                 {[][]byte{laid(b), laid(a)}, api.Place{Key: 1, At: 8, N: 32, Cookie: 6}, api.OK, 1},
		"the same twice":                      {[][]byte{laid(b), laid(b)}, api.Place{Key: 1, At: 8, N: 32, Cookie: 6}, api.OK, 1},
		"a mark ahead":                        {[][]byte{laid(m), laid(b)}, api.Place{Key: 1, At: 8, N: 32, Cookie: 7, Dead: true}, api.ErrDead, 1},
		"a mark behind":                       {[][]byte{laid(b), laid(m)}, api.Place{Key: 1, At: 40, N: 32, Cookie: 7, Dead: true}, api.ErrDead, 1},
		"a mark between":                      {[][]byte{laid(b), laid(m), laid(a)}, api.Place{Key: 1, At: 40, N: 32, Cookie: 7, Dead: true}, api.ErrDead, 1},
		"two marks":                           {[][]byte{laid(m), laid(n)}, api.Place{Key: 1, At: 8, N: 32, Cookie: 7, Dead: true}, api.ErrDead, 1},
		"two marks behind":                    {[][]byte{laid(b), laid(n), laid(a), laid(m)}, api.Place{Key: 1, At: 40, N: 32, Cookie: 8, Dead: true}, api.ErrDead, 1},
		"a damaged one ahead of a right one":  {[][]byte{damaged(b), laid(a)}, api.Place{Key: 1, At: 8, N: 32, Cookie: 6}, api.ErrSum, 0},
		"the same, damaged ahead":             {[][]byte{damaged(b), laid(b)}, api.Place{Key: 1, At: 8, N: 32, Cookie: 6}, api.ErrSum, 0},
		"a damaged one behind":                {[][]byte{laid(a), damaged(b)}, api.Place{Key: 1, At: 8, N: 40, Cookie: 5}, api.OK, 1},
		"a damaged mark ahead":                {[][]byte{damaged(m), laid(b)}, api.Place{Key: 1, At: 8, N: 32, Cookie: 7, Dead: true}, api.ErrDead, 0},
		"a damaged mark behind":               {[][]byte{laid(b), damaged(m)}, api.Place{Key: 1, At: 40, N: 32, Cookie: 7, Dead: true}, api.ErrDead, 0},
		"a damaged mark ahead of a right one": {[][]byte{damaged(m), laid(n)}, api.Place{Key: 1, At: 8, N: 32, Cookie: 7, Dead: true}, api.ErrDead, 0},
		"a mark behind a damaged one":         {[][]byte{damaged(b), laid(m)}, api.Place{Key: 1, At: 40, N: 32, Cookie: 7, Dead: true}, api.ErrDead, 1},
	} {
		for _, between := range [][]byte{nil, laid(living(2, 2, 2)), damaged(dead(3, 3)), slices.Concat(laid(dead(2, 2)), laid(living(0, 2, 20)))} {
			file := headOf(7)
			for _, row := range x.rows {
				file = slices.Concat(file, row, between)
			}
			want := x.there
			if want.At == 40 {
				want.At += len(between)
			}
			v := over(t, name, 7, file, 0).v
			i, ok := slices.BinarySearchFunc(v.Places(), 1, func(p api.Place, key int) int { return int(p.Key) - key })
			if !ok || v.Places()[i] != want {
				t.Errorf("%s: Places are %v, not with %v", name, v.Places(), want)
			}
			if _, e := v.Get(1, want.Cookie); e != x.e {
				t.Errorf("%s: Get is error %d, not %d", name, e, x.e)
			}
			found := 0
			for _, n := range v.Needles() {
				if n.Key == 1 {
					found++
				}
			}
			if found != x.needles || v.Size() != len(file) {
				t.Errorf("%s: %d needles of it, in %d bytes of %d", name, found, v.Size(), len(file))
			}
		}
	}
}

// TestP12_1Rows is files of all rows of up to four needles of one key: living and Dead, right and damaged.
func TestP12_1Rows(t *testing.T) {
	kinds := [][]byte{laid(living(1, 5, 2)), laid(living(1, 6, 9)), damaged(living(1, 7, 2)), laid(dead(1, 8)), damaged(dead(1, 9)), laid(living(2, 1, 1))}
	ways := 1
	for n := range 5 {
		for way := range ways {
			file := headOf(7)
			for range n {
				file = append(file, kinds[way%len(kinds)]...)
				way /= len(kinds)
			}
			over(t, "a row", 7, file, len(file))
		}
		ways *= len(kinds)
	}
}

// TestW1Open is files of bytes of all kinds behind the head: what is read and what is Cut is as on paper.
func TestW1Open(t *testing.T) {
	for i := range uint64(1500) {
		draws := drawn(i)
		file := headOf(7)
		for range draws.below(8) {
			n := living(uint64(draws.below(4)), uint32(draws.below(3)), draws.below(40))
			if draws.below(3) == 0 {
				n = dead(n.Key, n.Cookie)
			}
			file = append(file, laid(n)...)
		}
		for range draws.below(4) {
			if at := 8 + draws.below(max(len(file)-8, 1)); at < len(file) {
				file[at] ^= byte(1 + draws.below(255))
			}
		}
		if draws.below(2) == 0 {
			file = append(file, row(draws.below(60), i)...)
		}
		x := over(t, "any bytes", 7, file, draws.below(len(file)+1))
		x.put(living(3, 9, 5))
		if t.Failed() {
			t.Fatalf("start %d", i)
		}
	}
}
