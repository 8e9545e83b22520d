package wire_test

import (
	"bytes"
	"encoding/binary"
	"hash/crc32"
	"math"
	"slices"
	"testing"

	"garner/api"
	"garner/wire"
)

// maxData is how many bytes Data may have.
const maxData = api.MaxFrame - 1024

// row is n bytes that look drawn and are the same each time; another start gives another row.
func row(n int, start uint64) []byte {
	b := make([]byte, n)
	x := start
	for i := range b {
		x = x*6364136223846793005 + 1442695040888963407
		b[i] = byte(x >> 56)
	}
	return b
}

// record is a record as chapter 2's words have it.
func record(p []byte) []byte {
	length := binary.BigEndian.AppendUint32(nil, uint32(len(p)))
	sum := crc32.ChecksumIEEE(slices.Concat(length, p))
	return slices.Concat(binary.BigEndian.AppendUint32(length, sum), p)
}

// number is a number as bytes of seven digits.
func number(v uint64) []byte { return binary.AppendUvarint(nil, v) }

// partsOf is a message as the chapter's words have it, part by part: numbers, and Data last; it may be one that Encode refuses.
func partsOf(m api.Msg) [][]byte {
	l := [][]byte{number(uint64(m.From)), number(uint64(m.To)), number(uint64(m.Kind)), number(uint64(len(m.Nums)))}
	for _, v := range m.Nums {
		// The library lays both signs as the document's Zig does.
		l = append(l, binary.AppendVarint(nil, int64(v)))
	}
	return append(l, number(uint64(len(m.Data))), m.Data)
}

// bytesOf is what a record of a message holds.
func bytesOf(m api.Msg) []byte { return slices.Concat(partsOf(m)...) }

// same tells whether two messages say the same; nil and empty lists do.
func same(a, b api.Msg) bool {
	return a.From == b.From && a.To == b.To && a.Kind == b.Kind && slices.Equal(a.Nums, b.Nums) && bytes.Equal(a.Data, b.Data)
}

// ends are numbers of both signs: around each count of seven digits, and at both ends of their type.
func ends() []int {
	l := []int{0, 1, -1, 2, -2, 300, math.MaxInt, math.MaxInt - 1, math.MinInt, math.MinInt + 1}
	for i := 6; i < 31; i += 7 {
		for by := -1; by <= 1; by++ {
			l = append(l, 1<<i+by, -1<<i+by)
		}
	}
	return append(l, math.MaxInt32, math.MaxInt32-1, math.MinInt32, math.MinInt32+1)
}

// numbers are numbers that From, To and Kind may be.
func numbers() []int {
	return []int{0, 1, 2, 127, 128, 300, 16383, 16384, 1<<21 - 1, 1 << 21, 1<<28 - 1, 1 << 28, math.MaxInt32 - 1, math.MaxInt32}
}

// small are messages with few bytes: without Nums and without Data, with one of each, with some.
func small() []api.Msg {
	l := []api.Msg{
		{},
		{Nums: []int{}, Data: []byte{}},
		{From: 1, To: 2, Kind: 3, Nums: []int{-1, 300}, Data: []byte{0xab}},
		{From: 7, To: 7, Kind: 7},
		{Nums: []int{0}},
		{Data: []byte{0}},
		{Data: []byte{0x80}},
		{From: 3, Nums: []int{5}, Data: []byte{0xff}},
		{To: 128, Nums: []int{-64, 64, -64}, Data: []byte("a blob")},
		{Kind: 9, Nums: []int{math.MinInt, math.MaxInt}, Data: row(200, 1)},
		{Nums: ends()[:20]},
	}
	for _, v := range numbers() {
		l = append(l, api.Msg{From: v, Nums: []int{v}}, api.Msg{To: v, Data: row(3, 2)}, api.Msg{Kind: v})
	}
	for _, v := range ends() {
		l = append(l, api.Msg{From: 1, To: 2, Kind: 3, Nums: []int{v}}, api.Msg{Nums: []int{v, -1, v}, Data: []byte{1}})
	}
	return l
}

// great are messages with as many Nums, or as much Data, as there may be, and with one less.
func great() []api.Msg {
	top := math.MaxInt32
	return []api.Msg{
		{Nums: slices.Repeat([]int{0}, api.MaxNums)},
		{Nums: slices.Repeat([]int{-3}, api.MaxNums-1), Data: []byte{4}},
		{Nums: slices.Repeat(ends(), 3)[:api.MaxNums]},
		{Data: row(127, 3)},
		{Data: row(128, 4)},
		{From: 1, Data: row(16384, 5)},
		{To: 1, Data: row(maxData-1, 6)},
		{Kind: 1, Data: row(maxData, 7)},
		{From: top, To: top, Kind: top, Nums: slices.Repeat([]int{math.MinInt}, api.MaxNums), Data: row(maxData, 8)},
	}
}

// all are the messages that Encode takes.
func all() []api.Msg { return append(small(), great()...) }

// isNotMade asks for an error and nothing beside it.
func isNotMade(t *testing.T, name string, m api.Msg, want api.Errno) {
	t.Helper()
	if b, e := wire.Encode(m); e != want || len(b) != 0 {
		t.Errorf("%s: %d bytes, error %d, not %d", name, len(b), e, want)
	}
}

// TestP3_1Example is Encode of the chapter's example and of a message of nothing.
func TestP3_1Example(t *testing.T) {
	for _, x := range []struct {
		m    api.Msg
		want []byte
	}{
		{api.Msg{From: 1, To: 2, Kind: 3, Nums: []int{-1, 300}, Data: []byte{0xab}}, []byte{1, 2, 3, 2, 1, 0xd8, 4, 1, 0xab}},
		{api.Msg{}, []byte{0, 0, 0, 0, 0}},
		{api.Msg{From: 300, Nums: []int{-2, 2}}, []byte{0xac, 2, 0, 0, 2, 3, 4, 0}},
		{api.Msg{Kind: math.MaxInt32, Data: []byte("xyz")}, []byte{0, 0, 0xff, 0xff, 0xff, 0xff, 7, 0, 3, 'x', 'y', 'z'}},
	} {
		b, e := wire.Encode(x.m)
		if e != api.OK || !bytes.Equal(b, record(x.want)) {
			t.Errorf("%v: %x %d, not a record of %x", x.m, b, e, x.want)
		}
	}
}

// TestP3_1 is Encode of messages of all kinds.
func TestP3_1(t *testing.T) {
	for _, m := range all() {
		b, e := wire.Encode(m)
		if e != api.OK || !bytes.Equal(b, record(bytesOf(m))) {
			t.Errorf("%d %d %d %v with %d bytes: %d bytes, error %d", m.From, m.To, m.Kind, m.Nums, len(m.Data), len(b), e)
		}
	}
}

// TestP3_1Each is Encode of messages that differ in one field alone: each has its own place.
func TestP3_1Each(t *testing.T) {
	for _, v := range numbers() {
		for i := range 3 {
			l := [3]int{5, 6, 7}
			l[i] = v
			m := api.Msg{From: l[0], To: l[1], Kind: l[2]}
			want := slices.Concat(number(uint64(l[0])), number(uint64(l[1])), number(uint64(l[2])), []byte{0, 0})
			if b, e := wire.Encode(m); e != api.OK || !bytes.Equal(b, record(want)) {
				t.Errorf("%v: %x %d", l, b, e)
			}
		}
	}
}

// wrongNumbers are numbers that From, To and Kind may not be.
func wrongNumbers() []int {
	// Where an int is narrow, one above wraps to one below 0, which is as wrong.
	above := math.MaxInt32
	above++
	return []int{-1, -2, -128, math.MinInt32, math.MinInt, math.MinInt + 1, above, above + 1, -math.MaxInt}
}

// TestP3_1Arg is Encode of numbers below 0 and above 2^31 - 1, and of too many Nums.
func TestP3_1Arg(t *testing.T) {
	for _, v := range wrongNumbers() {
		isNotMade(t, "From", api.Msg{From: v}, api.ErrArg)
		isNotMade(t, "To", api.Msg{To: v}, api.ErrArg)
		isNotMade(t, "Kind", api.Msg{Kind: v}, api.ErrArg)
		isNotMade(t, "all of them", api.Msg{From: v, To: v, Kind: v, Nums: []int{1}, Data: []byte{2}}, api.ErrArg)
	}
	for _, n := range []int{api.MaxNums + 1, api.MaxNums + 2, 2 * api.MaxNums, 1 << 16} {
		isNotMade(t, "too many Nums", api.Msg{Nums: make([]int, n)}, api.ErrArg)
	}
	if math.MaxInt > math.MaxInt32 {
		isNotMade(t, "the greatest number", api.Msg{From: math.MaxInt}, api.ErrArg)
	}
}

// TestP3_1Long is Encode of too many bytes.
func TestP3_1Long(t *testing.T) {
	for _, n := range []int{maxData + 1, maxData + 2, api.MaxFrame - 20, api.MaxFrame, api.MaxFrame + 1, 1 << 24} {
		isNotMade(t, "Data alone", api.Msg{Data: make([]byte, n)}, api.ErrLong)
		isNotMade(t, "Data beside others", api.Msg{From: 1, Kind: math.MaxInt32, Nums: make([]int, api.MaxNums), Data: make([]byte, n)}, api.ErrLong)
	}
}

// TestP3_1Order is Encode where both errors apply: ErrArg is named first.
func TestP3_1Order(t *testing.T) {
	long := make([]byte, maxData+1)
	for _, v := range wrongNumbers() {
		isNotMade(t, "From and Data", api.Msg{From: v, Data: long}, api.ErrArg)
		isNotMade(t, "To and Data", api.Msg{To: v, Data: long}, api.ErrArg)
		isNotMade(t, "Kind and Data", api.Msg{Kind: v, Data: long}, api.ErrArg)
	}
	isNotMade(t, "Nums and Data", api.Msg{Nums: make([]int, api.MaxNums+1), Data: long}, api.ErrArg)
}

// TestP3_1Room asks whether the room behind a list's end does not count.
func TestP3_1Room(t *testing.T) {
	m := api.Msg{Nums: make([]int, 1, 2*api.MaxNums), Data: make([]byte, 2, api.MaxFrame)}
	if b, e := wire.Encode(m); e != api.OK || !bytes.Equal(b, record([]byte{0, 0, 0, 1, 0, 2, 0, 0})) {
		t.Errorf("%x %d", b, e)
	}
}
