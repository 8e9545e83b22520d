package strip_test

import (
	"bytes"
	"math"
	"slices"
	"testing"

	"garner/api"
	"garner/strip"
)

// numbers are such as an id or a shard's number may be: 0, the greatest, such as tell places apart.
func numbers() []int {
	return []int{0, 1, 2, 127, 128, 255, 256, 65535, 65536, 0x01020304, 99999999, 1<<31 - 2, 1<<31 - 1}
}

// sizes are such as a whole may have.
func sizes() []int {
	return []int{1, 2, 15, 16, 17, 255, 256, 65536, 0x010203, api.MaxVolume - 1, api.MaxVolume}
}

// noNumbers are such as no id and no shard's number may be.
func noNumbers() []int {
	return []int{-1, -2, -256, math.MinInt32, math.MinInt + 1, math.MinInt, 1 << 31, 1<<31 + 1, 1<<32 - 1, 1 << 32, 1<<32 + 1, 1 << 62, math.MaxInt - 1, math.MaxInt}
}

// noSizes are such as no whole may have.
func noSizes() []int {
	return append(noNumbers(), 0, api.MaxVolume+1, api.MaxVolume+2, 2*api.MaxVolume, math.MaxInt32, 1<<32+16)
}

// TestP14_2Hand is a file that was written by hand: of the whole of one byte, of which the sums are known.
func TestP14_2Hand(t *testing.T) {
	rows := make([]byte, 32)
	head := []byte{0x67, 0x73, 0x01, 0x00, 0x01, 0x02, 0x03, 0x04, 0x00, 0x00, 0x00, 0x0b, 0x00, 0x40, 0x00, 0x00}
	// The sum of sixteen bytes 0.
	row := append(make([]byte, 16), 0xec, 0xbb, 0x4b, 0x55)
	b := slices.Concat(summed(head), row, row)
	isFile(t, 0x01020304, 11, api.MaxVolume, rows, b, api.OK)
	isRead(t, "by hand", b, 0x01020304, 11, api.MaxVolume, cutRows(rows))
}

// TestP14_2 is File, and Read of what it makes: all sorts of ids, numbers and sizes, of one row and of many. How many rows the whole has, with a k that nobody tells, has no say.
func TestP14_2(t *testing.T) {
	x := drawn(11)
	for _, id := range numbers() {
		for _, i := range numbers() {
			for _, size := range sizes() {
				rows := x.row(16 * (1 + x.below(4)))
				b := paperFile(id, i, size, rows)
				isFile(t, id, i, size, rows, b, api.OK)
				isRead(t, "a file", b, id, i, size, cutRows(rows))
			}
		}
	}
	for n := 1; n <= 300; n++ {
		rows := x.row(16 * n)
		isFile(t, 7, n, 40, rows, paperFile(7, n, 40, rows), api.OK)
		isRead(t, "many rows", paperFile(7, n, 40, rows), 7, n, 40, cutRows(rows))
	}
}

// TestP14_2Cut is the files of what Cut makes, there and back.
func TestP14_2Cut(t *testing.T) {
	x := drawn(12)
	for _, p := range somePairs() {
		for _, size := range append(p.sizes(), 1000) {
			l, _ := strip.Cut(x.row(size), p.k, p.m)
			for i, rows := range l {
				b := paperFile(3, i, size, rows)
				isFile(t, 3, i, size, rows, b, api.OK)
				isRead(t, "a shard", b, 3, i, size, cutRows(rows))
			}
		}
	}
}

// TestP14_2Great is the file of a shard that is the whole of MaxVolume bytes, and of one row more than any whole has.
func TestP14_2Great(t *testing.T) {
	x := drawn(13)
	rows := x.row(api.MaxVolume + 16)
	for _, n := range []int{api.MaxVolume - 16, api.MaxVolume, api.MaxVolume + 16} {
		b := paperFile(1, 2, api.MaxVolume, rows[:n])
		isFile(t, 1, 2, api.MaxVolume, rows[:n], b, api.OK)
		isRead(t, "a great file", b, 1, 2, api.MaxVolume, cutRows(rows[:n]))
	}
}

// TestP14_2File is what File refuses, one thing at a time and two.
func TestP14_2File(t *testing.T) {
	rows := make([]byte, 32)
	for _, n := range noNumbers() {
		isFile(t, n, 1, 40, rows, nil, api.ErrArg)
		isFile(t, 1, n, 40, rows, nil, api.ErrArg)
		isFile(t, n, n, 40, rows, nil, api.ErrArg)
		isFile(t, n, 1, 40, nil, nil, api.ErrArg)
	}
	for _, n := range noSizes() {
		isFile(t, 1, 1, n, rows, nil, api.ErrArg)
		isFile(t, 1, 1, n, nil, nil, api.ErrArg)
	}
	for n := range 100 {
		if n%16 != 0 || n == 0 {
			isFile(t, 1, 1, 40, make([]byte, n), nil, api.ErrArg)
		}
	}
	for _, none := range [][]byte{nil, {}, rows[:0]} {
		isFile(t, 1, 1, 40, none, nil, api.ErrArg)
	}
	for _, n := range []int{api.MaxVolume - 1, api.MaxVolume + 1, api.MaxVolume + 8} {
		isFile(t, 1, 1, 40, make([]byte, n), nil, api.ErrArg)
	}
}

// TestP14_2Short is Read of fewer than twenty bytes, whatever they are.
func TestP14_2Short(t *testing.T) {
	x := drawn(14)
	b := paperFile(1, 2, 40, x.row(32))
	isNoFile(t, "nil", nil, api.ErrShort)
	for n := range 20 {
		isNoFile(t, "cut short", b[:n], api.ErrShort)
		isNoFile(t, "cut short, alone", slices.Clip(bytes.Clone(b[:n])), api.ErrShort)
		isNoFile(t, "drawn", x.row(n), api.ErrShort)
		isNoFile(t, "of 0", make([]byte, n), api.ErrShort)
	}
}

// TestP14_2Begin is Read of files of which one of the first four bytes is each other one, with the old sum and with the right one, and with more that is wrong behind.
func TestP14_2Begin(t *testing.T) {
	x := drawn(15)
	rows := x.row(32)
	b := paperFile(1, 2, 40, rows)
	for at := range 4 {
		for by := 1; by < 256; by++ {
			changed := bytes.Clone(b)
			changed[at] ^= byte(by)
			isNoFile(t, "another beginning", changed, api.ErrForm)
			right := append(summed(changed[:16]), changed[20:]...)
			isNoFile(t, "another beginning, the sum right", right, api.ErrForm)
			isNoFile(t, "another beginning, a head alone", right[:20], api.ErrForm)
			isNoFile(t, "another beginning, less than a head", right[:19], api.ErrShort)
			other := append(told(1<<31, 2, 0), changed[20:]...)
			other[at] ^= byte(by)
			isNoFile(t, "another beginning, and no id", other, api.ErrForm)
		}
	}
	isNoFile(t, "of 0", make([]byte, 40), api.ErrForm)
	isNoFile(t, "of all digits", bytes.Repeat([]byte{255}, 40), api.ErrForm)
	volume := append([]byte{0x67, 0x76}, b[2:]...)
	isNoFile(t, "the beginning of a volume's file", volume, api.ErrForm)
}

// TestP14_2Behind is Read of heads with nothing behind, or what is no multiple of a row and its sum, also where head and rows are wrong too.
func TestP14_2Behind(t *testing.T) {
	x := drawn(16)
	b := paperFile(1, 2, 40, x.row(16*4))
	wrong := append(x.row(4), b[4:]...)
	torn := slices.Concat(b[:19], []byte{b[19] ^ 1}, b[20:])
	no := append(told(1<<31, 2, 0), b[20:]...)
	for n := 20; n <= len(b); n++ {
		if (n-20)%20 == 0 && n > 20 {
			isRead(t, "some rows", b[:n], 1, 2, 40, cutRowsOf(b[:n]))
			continue
		}
		isNoFile(t, "cut within a row", b[:n], api.ErrForm)
		isNoFile(t, "cut within a row, begins otherwise", wrong[:n], api.ErrForm)
		isNoFile(t, "cut within a row, the sum wrong", torn[:n], api.ErrForm)
		isNoFile(t, "cut within a row, no id", no[:n], api.ErrForm)
	}
	for n := 1; n < 20; n++ {
		isNoFile(t, "something behind", append(bytes.Clone(b), make([]byte, n)...), api.ErrForm)
	}
}

// cutRowsOf are the rows of a file whose sums are right.
func cutRowsOf(b []byte) [][]byte {
	var l [][]byte
	for row := range slices.Chunk(b[20:], 20) {
		l = append(l, row[:16])
	}
	return l
}

// TestP14_2Head is Read of heads of which one digit behind the beginning was turned: it is the sum that is not right, whatever else they then tell.
func TestP14_2Head(t *testing.T) {
	x := drawn(17)
	for _, size := range []int{1, 40, api.MaxVolume} {
		b := paperFile(1<<31-1, 0, size, x.row(32))
		for digit := 4 * 8; digit < 20*8; digit++ {
			b[digit/8] ^= 1 << (digit % 8)
			isNoFile(t, "a digit of the head", b, api.ErrSum)
			isNoFile(t, "a digit of the head, within a row", b[:len(b)-1], api.ErrForm)
			b[digit/8] ^= 1 << (digit % 8)
		}
	}
	for name, other := range map[string][]byte{"no bytes": nil, "twelve bytes": told(1, 2, 40)[:12], "the numbers": told(1, 2, 40)[4:16], "0": make([]byte, 16)} {
		b := slices.Concat(told(1, 2, 40)[:16], summed(other)[len(other):], summed(x.row(16)))
		isNoFile(t, "the sum of "+name, b, api.ErrSum)
		// Also where File does not take what is told.
		b = slices.Concat(told(1<<31, 2, 0)[:16], summed(other)[len(other):], summed(x.row(16)))
		isNoFile(t, "the sum of "+name+", and no id", b, api.ErrSum)
	}
}

// TestP14_2Told is Read of heads whose sum is right, but which tell what File does not take, with rows that are right and with such as are not.
func TestP14_2Told(t *testing.T) {
	x := drawn(18)
	right, wrong := summed(x.row(16)), x.row(20)
	for _, behind := range [][]byte{right, wrong, slices.Concat(right, wrong, right)} {
		for _, n := range []uint32{1 << 31, 1<<31 + 1, 1<<31 + 40, 1<<32 - 2, 1<<32 - 1} {
			isNoFile(t, "no id", append(told(n, 1, 40), behind...), api.ErrArg)
			isNoFile(t, "no number", append(told(1, n, 40), behind...), api.ErrArg)
			isNoFile(t, "no size", append(told(1, 1, n), behind...), api.ErrArg)
			isNoFile(t, "none", append(told(n, n, n), behind...), api.ErrArg)
		}
		for _, n := range []uint32{0, api.MaxVolume + 1, api.MaxVolume + 2, 2 * api.MaxVolume, 1 << 24, 1<<31 - 1} {
			isNoFile(t, "no size", append(told(1, 1, n), behind...), api.ErrArg)
			isNoFile(t, "no size, within a row", append(told(1, 1, n), behind[1:]...), api.ErrForm)
		}
	}
}

// TestP14_2Row is Read of files of which one digit of a row or of its sum was turned: that row is empty, and all others are there.
func TestP14_2Row(t *testing.T) {
	x := drawn(19)
	for _, n := range []int{1, 2, 5} {
		rows := x.row(16 * n)
		b := paperFile(1, 2, 40, rows)
		for digit := 20 * 8; digit < len(b)*8; digit++ {
			want := cutRows(rows)
			want[(digit/8-20)/20] = nil
			b[digit/8] ^= 1 << (digit % 8)
			isRead(t, "a digit of a row", b, 1, 2, 40, want)
			b[digit/8] ^= 1 << (digit % 8)
		}
	}
}

// TestP14_2Rows is Read of files of which many rows are not right, up to all of them, and of rows in another order, for each one is right for itself.
func TestP14_2Rows(t *testing.T) {
	x := drawn(20)
	for range 300 {
		n := 1 + x.below(9)
		rows := x.row(16 * n)
		b := paperFile(1, 2, 40, rows)
		want := cutRows(rows)
		for _, r := range x.lost(n, x.below(n+1)) {
			b[20+20*r+x.below(20)] ^= byte(1 + x.below(255))
			want[r] = nil
		}
		isRead(t, "some rows", b, 1, 2, 40, want)
	}
	rows := x.row(32)
	b := paperFile(1, 2, 40, rows)
	isRead(t, "rows exchanged", slices.Concat(b[:20], b[40:60], b[20:40]), 1, 2, 40, [][]byte{rows[16:], rows[:16]})
	isRead(t, "rows of 0 without a sum", slices.Concat(b[:20], make([]byte, 40)), 1, 2, 40, [][]byte{nil, nil})
	isRead(t, "sums exchanged", slices.Concat(b[:36], b[56:60], b[40:56], b[36:40]), 1, 2, 40, [][]byte{nil, nil})
}

// TestW1Read is Read of whatever is drawn, in part files that were changed: each call ends, and what it takes File makes again, but for rows that are not right.
func TestW1Read(t *testing.T) {
	x := drawn(21)
	for range 20000 {
		b := x.row(x.below(90))
		if x.below(4) > 0 {
			b = paperFile(x.below(9), x.below(9), 1+x.below(9), x.row(16*(1+x.below(4))))
			for range x.below(3) {
				b[x.below(len(b))] ^= x.next()
			}
			b = b[:max(0, len(b)-x.below(2)*x.below(30))]
		}
		id, i, size, rows, e := strip.Read(b)
		if e != api.OK {
			isNoFile(t, "drawn", b, e)
			continue
		}
		again := told(uint32(id), uint32(i), uint32(size))
		for r, row := range rows {
			if len(row) == 0 {
				row = b[20+20*r : 40+20*r]
				if bytes.Equal(row, summed(row[:16])) {
					t.Fatalf("%x: the row %d is right, but empty", b, r)
				}
				again = append(again, row...)
				continue
			}
			again = append(again, summed(row)...)
		}
		if !bytes.Equal(again, b) {
			t.Fatalf("%x: %d, %d, %d, %x", b, id, i, size, rows)
		}
	}
}
