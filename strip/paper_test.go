package strip_test

import (
	"bytes"
	"encoding/binary"
	"hash/crc32"
	"math"
	"slices"
	"sync"
	"testing"

	"garner/api"
	"garner/strip"
)

// modulus is x^8 + x^4 + x^3 + x^2 + 1, the digit i as the factor of x^i.
const modulus = 1<<8 | 1<<4 | 1<<3 | 1<<2 | 1

// product is a product of two numbers on paper: all terms, then what the division by the modulus leaves, from the highest term down.
func product(a, b byte) byte {
	all := 0
	for i := range 8 {
		if b>>i&1 == 1 {
			all ^= int(a) << i
		}
	}
	for i := 14; i >= 8; i-- {
		if all>>i&1 == 1 {
			all ^= modulus << (i - 8)
		}
	}
	return byte(all)
}

// table is all products, at their two numbers, and each number's inverse.
type table struct {
	times   [256][256]byte
	inverse [256]byte
}

// paper is that table, worked out once.
var paper = sync.OnceValue(func() *table {
	var p table
	for a := range 256 {
		for b := range 256 {
			p.times[a][b] = product(byte(a), byte(b))
			if p.times[a][b] == 1 {
				p.inverse[a] = byte(b)
			}
		}
	}
	return &p
})

// pair is a k and m.
type pair struct{ k, m int }

// pairs are all that Code takes.
func pairs() []pair {
	var l []pair
	for k := 1; k <= api.MaxRow; k++ {
		for m := 0; k+m <= api.MaxRow; m++ {
			l = append(l, pair{k, m})
		}
	}
	return l
}

// somePairs are some of them, of all sorts.
func somePairs() []pair {
	return []pair{{1, 0}, {1, 1}, {1, 2}, {1, 13}, {2, 0}, {2, 1}, {2, 2}, {3, 2}, {4, 3}, {3, 5}, {7, 7}, {10, 4}, {13, 1}, {14, 0}}
}

// isCode asks whether Code takes a pair.
func (p pair) isCode() bool {
	return p.k >= 1 && p.m >= 0 && p.k <= api.MaxRow && p.m <= api.MaxRow && p.k+p.m <= api.MaxRow
}

// refused are all sorts of k and m that Code does not take.
func refused() []pair {
	below := []int{-1, -2, -14, -256, -65536, math.MinInt32, math.MinInt + 14, math.MinInt + 1, math.MinInt}
	above := []int{15, 16, 64, 256, 257, 65536, math.MaxInt32, math.MaxInt - 14, math.MaxInt - 1, math.MaxInt}
	var l []pair
	for _, n := range slices.Concat(below, []int{0, 1, 2, 7, 13, 14}, above) {
		for _, x := range append(below, 0) {
			l = append(l, pair{x, n})
		}
		for _, x := range below {
			l = append(l, pair{n, x})
		}
		for _, x := range above {
			l = append(l, pair{x, n}, pair{n, x})
		}
	}
	for k := range api.MaxRow + 1 {
		l = append(l, pair{k, api.MaxRow - k + 1}, pair{api.MaxRow, k + 1}, pair{k + 2, -k - 1})
	}
	return l
}

// weight is the number with which the shard j of the first k counts in the shard i.
func (p pair) weight(i, j int) byte {
	switch {
	case i >= p.k:
		return paper().inverse[i^j]
	case i == j:
		return 1
	}
	return 0
}

// height is how many rows each shard of a whole has.
func (p pair) height(size int) int {
	rows := 0
	for rows*p.k*16 < size {
		rows++
	}
	return rows
}

// paperCut is all shards of a whole, byte by byte.
func paperCut(b []byte, p pair) [][]byte {
	l := make([][]byte, p.k+p.m)
	for i := range l {
		l[i] = make([]byte, p.height(len(b))*16)
	}
	for at, x := range b {
		block := at / 16
		l[block%p.k][block/p.k*16+at%16] = x
	}
	times := &paper().times
	for i := p.k; i < p.k+p.m; i++ {
		for j := range p.k {
			weight := p.weight(i, j)
			for at, x := range l[j] {
				l[i][at] ^= times[weight][x]
			}
		}
	}
	return l
}

// solve is what the first k shards have at one place, where some k shards have these numbers there: equations on paper, of which one unknown after the other is taken away.
func (p pair) solve(some []int, numbers []byte) []byte {
	times, inverse := &paper().times, &paper().inverse
	rows := make([][]byte, p.k)
	for r, i := range some {
		for j := range p.k {
			rows[r] = append(rows[r], p.weight(i, j))
		}
		rows[r] = append(rows[r], numbers[r])
	}
	for j := range rows {
		lead := j + slices.IndexFunc(rows[j:], func(row []byte) bool { return row[j] != 0 })
		rows[j], rows[lead] = rows[lead], rows[j]
		by := inverse[rows[j][j]]
		for at := range rows[j] {
			rows[j][at] = times[by][rows[j][at]]
		}
		for i := range rows {
			if by := rows[i][j]; i != j && by != 0 {
				for at := range rows[i] {
					rows[i][at] ^= times[by][rows[j][at]]
				}
			}
		}
	}
	var data []byte
	for _, row := range rows {
		data = append(data, row[p.k])
	}
	return data
}

// paperRow is one row of all shards, made out of the first k that have it; false, if fewer have.
func (p pair) paperRow(rows [][]byte) ([][]byte, bool) {
	var some []int
	for i, row := range rows {
		if len(row) > 0 && len(some) < p.k {
			some = append(some, i)
		}
	}
	if len(some) < p.k {
		return nil, false
	}
	l := make([][]byte, p.k+p.m)
	for at := range 16 {
		var numbers []byte
		for _, i := range some {
			numbers = append(numbers, rows[i][at])
		}
		data := p.solve(some, numbers)
		for i := range l {
			var x byte
			for j, y := range data {
				x ^= paper().times[p.weight(i, j)][y]
			}
			l[i] = append(l[i], x)
		}
	}
	return l, true
}

// isShards asks whether shards are such as Part and Mend take.
func isShards(shards [][][]byte, p pair, size int) bool {
	if !p.isCode() || size < 1 || size > api.MaxVolume || len(shards) != p.k+p.m {
		return false
	}
	for _, rows := range shards {
		if len(rows) != 0 && len(rows) != p.height(size) {
			return false
		}
		for _, row := range rows {
			if len(row) != 0 && len(row) != 16 {
				return false
			}
		}
	}
	return true
}

// rowOf is one row of all shards.
func rowOf(shards [][][]byte, r int) [][]byte {
	l := make([][]byte, len(shards))
	for i, rows := range shards {
		if len(rows) > 0 {
			l[i] = rows[r]
		}
	}
	return l
}

// paperMend is Mend as the chapter's words have it.
func paperMend(shards [][][]byte, p pair, size int) ([][]byte, api.Errno) {
	if !isShards(shards, p, size) {
		return nil, api.ErrArg
	}
	l := make([][]byte, p.k+p.m)
	for r := range p.height(size) {
		row, ok := p.paperRow(rowOf(shards, r))
		if !ok {
			return nil, api.ErrLost
		}
		for i, block := range row {
			l[i] = append(l[i], block...)
		}
	}
	return l, api.OK
}

// paperPart is Part as the chapter's words have it, byte by byte.
func paperPart(shards [][][]byte, p pair, size, at, n int) ([]byte, api.Errno) {
	if !isShards(shards, p, size) || at < 0 || n < 0 || at > size || n > size-at {
		return nil, api.ErrArg
	}
	mended := map[int][][]byte{}
	var l []byte
	for x := at; x < at+n; x++ {
		i, r := x/16%p.k, x/16/p.k
		rows := rowOf(shards, r)
		if len(rows[i]) > 0 {
			l = append(l, rows[i][x%16])
			continue
		}
		if mended[r] == nil {
			row, ok := p.paperRow(rows)
			if !ok {
				return nil, api.ErrLost
			}
			mended[r] = row
		}
		l = append(l, mended[r][i][x%16])
	}
	return l, api.OK
}

// summed is bytes with their sum behind.
func summed(b []byte) []byte {
	return binary.BigEndian.AppendUint32(bytes.Clone(b), crc32.ChecksumIEEE(b))
}

// told is what a file's head tells, with its sum; the numbers may be such as no file has.
func told(id, i, size uint32) []byte {
	b := []byte{0x67, 0x73, 0x01, 0x00}
	for _, v := range []uint32{id, i, size} {
		b = binary.BigEndian.AppendUint32(b, v)
	}
	return summed(b)
}

// paperFile is a shard's file.
func paperFile(id, i, size int, rows []byte) []byte {
	b := told(uint32(id), uint32(i), uint32(size))
	for row := range slices.Chunk(rows, 16) {
		b = append(b, summed(row)...)
	}
	return b
}

// record is a record of chapter 2.
func record(p []byte) []byte {
	length := binary.BigEndian.AppendUint32(nil, uint32(len(p)))
	sum := crc32.ChecksumIEEE(slices.Concat(length, p))
	return append(binary.BigEndian.AppendUint32(length, sum), p...)
}

// placeBytes is a place as it stands in an index.
func placeBytes(p api.Place) []byte {
	b := binary.AppendUvarint(nil, p.Key)
	b = binary.AppendUvarint(b, uint64(p.At))
	b = binary.AppendUvarint(b, uint64(p.N))
	b = binary.BigEndian.AppendUint32(b, p.Cookie)
	if p.Dead {
		return append(b, 0x01)
	}
	return append(b, 0x00)
}

// inside is what stands in an index's record; the places may be such as Index refuses.
func inside(l []api.Place) []byte {
	b := binary.AppendUvarint(nil, uint64(len(l)))
	for _, p := range l {
		b = append(b, placeBytes(p)...)
	}
	return b
}

// cutRows are bytes as rows, each one in memory of its own.
func cutRows(b []byte) [][]byte {
	var l [][]byte
	for row := range slices.Chunk(b, 16) {
		l = append(l, bytes.Clone(row))
	}
	return l
}

// rowsOf are shards as rows.
func rowsOf(shards [][]byte) [][][]byte {
	var l [][][]byte
	for _, b := range shards {
		l = append(l, cutRows(b))
	}
	return l
}

// whole is a whole and all its shards, as the paper has them.
type whole struct {
	pair
	b      []byte
	shards [][]byte
}

// whole is a drawn whole of so many bytes.
func (x *drawn) whole(p pair, size int) *whole {
	b := x.row(size)
	return &whole{p, b, paperCut(b, p)}
}

// without are its rows, but those of the lost shards: a shard that is lost has no rows, in turn as nil and as an empty list.
func (w *whole) without(lost []int) [][][]byte {
	l := rowsOf(w.shards)
	for n, i := range lost {
		l[i] = [][][]byte{nil, {}}[n%2]
	}
	return l
}

// torn are its rows, of which in each one n of the shards, drawn, have lost theirs: nil, empty, or empty with room behind, in turn.
func (w *whole) torn(x *drawn, n int) [][][]byte {
	l := rowsOf(w.shards)
	for r := range l[0] {
		for turn, i := range x.lost(len(l), n) {
			l[i][r] = [][]byte{nil, {}, l[i][r][:0]}[turn%3]
		}
	}
	return l
}

// copied are shards in new memory.
func copied(shards [][][]byte) [][][]byte {
	l := make([][][]byte, len(shards))
	for i, rows := range shards {
		l[i] = make([][]byte, len(rows))
		for r, row := range rows {
			l[i][r] = bytes.Clone(row)
		}
	}
	return l
}

// sets are all sets of some of the numbers 0 to n - 1, each one as they rise.
func sets(n, some int) [][]int {
	var l [][]int
	for set := range 1 << n {
		var one []int
		for i := range n {
			if set>>i&1 == 1 {
				one = append(one, i)
			}
		}
		if len(one) == some {
			l = append(l, one)
		}
	}
	return l
}

// sizes are those of a whole around its blocks and rows: of one byte, of less than a block, of just a block, of k blocks, of many rows.
func (p pair) sizes() []int {
	l := []int{1, 2, 15, 16, 17, 31, 32, 33}
	for _, rows := range []int{1, 2, 3, 10} {
		n := rows * p.k * 16
		l = append(l, n-17, n-16, n-15, n-1, n, n+1, n+15, n+16, n+17)
	}
	l = slices.DeleteFunc(l, func(n int) bool { return n < 1 })
	return slices.Compact(slices.Sorted(slices.Values(l)))
}

// drawn are numbers that look drawn and are the same each time.
type drawn uint64

// next is one of them.
func (x *drawn) next() byte {
	*x = *x*6364136223846793005 + 1442695040888963407
	return byte(*x >> 40)
}

// below is one of them that is below n.
func (x *drawn) below(n int) int {
	return (int(x.next())<<16 | int(x.next())<<8 | int(x.next())) % n
}

// row is n of them.
func (x *drawn) row(n int) []byte {
	l := make([]byte, n)
	for i := range l {
		l[i] = x.next()
	}
	return l
}

// lost are n of the numbers 0 to all - 1, as they rise.
func (x *drawn) lost(all, n int) []int {
	l := make([]int, all)
	for i := range l {
		l[i] = i
		at := x.below(i + 1)
		l[i], l[at] = l[at], l[i]
	}
	return slices.Sorted(slices.Values(l[:n]))
}

// same asks whether two lists of bytes are the same.
func same(a, b [][]byte) bool {
	return slices.EqualFunc(a, b, bytes.Equal)
}

// few are the first bytes of lists, for what a test tells.
func few(a [][]byte) [][]byte {
	var l [][]byte
	for _, row := range a[:min(14, len(a))] {
		l = append(l, row[:min(18, len(row))])
	}
	return l
}

// isCut asks for all shards.
func isCut(t *testing.T, b []byte, p pair, want [][]byte, wantE api.Errno) {
	t.Helper()
	if got, e := strip.Cut(b, p.k, p.m); !same(got, want) || e != wantE || e != api.OK && got != nil {
		t.Fatalf("Cut of %d bytes, %d, %d: %x, %d, not %x, %d", len(b), p.k, p.m, few(got), e, few(want), wantE)
	}
}

// isFile asks for a file.
func isFile(t *testing.T, id, i, size int, rows, want []byte, wantE api.Errno) {
	t.Helper()
	if got, e := strip.File(id, i, size, rows); !bytes.Equal(got, want) || e != wantE || e != api.OK && got != nil {
		t.Fatalf("File of %d, %d, %d, %d bytes: %x, %d, not %x, %d", id, i, size, len(rows), few([][]byte{got}), e, few([][]byte{want}), wantE)
	}
}

// isRead asks for what a file tells.
func isRead(t *testing.T, name string, b []byte, id, i, size int, rows [][]byte) {
	t.Helper()
	gotID, gotI, gotSize, got, e := strip.Read(b)
	if e != api.OK || gotID != id || gotI != i || gotSize != size || !same(got, rows) {
		t.Fatalf("%s: %d bytes are %d, %d, %d, %x, error %d, not %d, %d, %d, %x", name, len(b), gotID, gotI, gotSize, few(got), e, id, i, size, few(rows))
	}
}

// isNoFile asks Read for an error and nothing beside it.
func isNoFile(t *testing.T, name string, b []byte, want api.Errno) {
	t.Helper()
	if id, i, size, rows, e := strip.Read(b); e != want || id != 0 || i != 0 || size != 0 || rows != nil {
		t.Fatalf("%s: %d bytes are %d, %d, %d, %x, error %d, not %d", name, len(b), id, i, size, few(rows), e, want)
	}
}

// isPart asks for bytes of the whole.
func isPart(t *testing.T, shards [][][]byte, p pair, size, at, n int, want []byte, wantE api.Errno) {
	t.Helper()
	if got, e := strip.Part(shards, p.k, p.m, size, at, n); !bytes.Equal(got, want) || e != wantE || e != api.OK && got != nil {
		t.Fatalf("Part of %d, %d, size %d, at %d, %d: %d bytes %x, %d, not %d %x, %d", p.k, p.m, size, at, n, len(got), few([][]byte{got}), e, len(want), few([][]byte{want}), wantE)
	}
}

// isMend asks for all shards.
func isMend(t *testing.T, shards [][][]byte, p pair, size int, want [][]byte, wantE api.Errno) {
	t.Helper()
	if got, e := strip.Mend(shards, p.k, p.m, size); !same(got, want) || e != wantE || e != api.OK && got != nil {
		t.Fatalf("Mend of %d, %d, size %d: %x, %d, not %x, %d", p.k, p.m, size, few(got), e, few(want), wantE)
	}
}

// isRefused asks Part and Mend for ErrArg, Part at places that the size has, if it is right.
func isRefused(t *testing.T, shards [][][]byte, p pair, size int) {
	t.Helper()
	for _, at := range []int{0, 1, size} {
		for _, n := range []int{0, 1, size - at} {
			isPart(t, shards, p, size, at, n, nil, api.ErrArg)
		}
	}
	isMend(t, shards, p, size, nil, api.ErrArg)
}

// isIndex asks for an index's bytes.
func isIndex(t *testing.T, l []api.Place, want []byte, wantE api.Errno) {
	t.Helper()
	if got, e := strip.Index(l); !bytes.Equal(got, want) || e != wantE || e != api.OK && got != nil {
		t.Fatalf("Index of %d places %v: %d bytes %x, %d, not %d %x, %d", len(l), l[:min(3, len(l))], len(got), few([][]byte{got}), e, len(want), few([][]byte{want}), wantE)
	}
}

// isReadIndex asks for an index's places.
func isReadIndex(t *testing.T, name string, b []byte, want []api.Place, wantE api.Errno) {
	t.Helper()
	if got, e := strip.ReadIndex(b); !slices.Equal(got, want) || e != wantE || e != api.OK && got != nil {
		t.Fatalf("%s: %d bytes %x are %d places %v, %d, not %d %v, %d", name, len(b), few([][]byte{b}), len(got), got[:min(3, len(got))], e, len(want), want[:min(3, len(want))], wantE)
	}
}

// TestPaper asks whether the paper itself is right, at what was worked out by hand.
func TestPaper(t *testing.T) {
	for _, x := range []struct{ a, b, want byte }{{2, 128, 29}, {3, 7, 9}, {16, 16, 29}, {255, 255, 226}, {0, 77, 0}, {244, 2, 245}} {
		if got := paper().times[x.a][x.b]; got != x.want {
			t.Errorf("%d times %d: %d, not %d", x.a, x.b, got, x.want)
		}
	}
	if a, b := (pair{2, 1}).weight(2, 0), (pair{2, 1}).weight(2, 1); a != 142 || b != 244 {
		t.Errorf("the row of sums of 2, 1: %d %d", a, b)
	}
	block := func(x byte) []byte { return bytes.Repeat([]byte{x}, 16) }
	got, ok := pair{2, 2}.paperRow([][]byte{nil, nil, block(123), block(245)})
	if want := [][]byte{block(1), block(2), block(123), block(245)}; !ok || !same(got, want) {
		t.Errorf("two rows of data out of two of sums: %v", got)
	}
	if _, ok := (pair{2, 2}).paperRow([][]byte{nil, nil, nil, block(245)}); ok {
		t.Error("a row out of one that is there")
	}
	if got := crc32.ChecksumIEEE([]byte("123456789")); got != 0xcbf43926 {
		t.Errorf("a sum: %x", got)
	}
	for _, x := range []struct {
		p          pair
		size, want int
	}{{pair{1, 0}, 1, 1}, {pair{1, 0}, 16, 1}, {pair{1, 0}, 17, 2}, {pair{2, 1}, 40, 2}, {pair{2, 1}, 64, 2}, {pair{2, 1}, 65, 3}} {
		if got := x.p.height(x.size); got != x.want {
			t.Errorf("%d bytes of %d, %d: %d rows, not %d", x.size, x.p.k, x.p.m, got, x.want)
		}
	}
	if n := len(pairs()); n != 105 {
		t.Errorf("%d pairs of k and m", n)
	}
}
