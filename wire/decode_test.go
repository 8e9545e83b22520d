package wire_test

import (
	"bytes"
	"encoding/binary"
	"math"
	"slices"
	"testing"

	"garner/api"
	"garner/frame"
	"garner/wire"
)

// isRefused asks for an error and nothing beside it.
func isRefused(t *testing.T, name string, b []byte, want api.Errno) {
	t.Helper()
	m, n, e := wire.Decode(b)
	if !same(m, api.Msg{}) || n != 0 || e != want {
		t.Errorf("%s: %v of %d, error %d, not %d", name, m, n, e, want)
	}
}

// isRead asks for a message, and for how many bytes it takes.
func isRead(t *testing.T, name string, b []byte, want api.Msg, wantN int) {
	t.Helper()
	m, n, e := wire.Decode(b)
	if !same(m, want) || n != wantN || e != api.OK {
		t.Errorf("%s: %d %d %d %v with %d bytes, of %d, error %d", name, m.From, m.To, m.Kind, m.Nums, len(m.Data), n, e)
	}
}

// readOf is the message that a record's bytes are, if they are what Encode makes of one: read with leave for all forms of numbers, and then held against what the chapter's words make of it.
func readOf(p []byte) (api.Msg, bool) {
	rest := p
	next := func() uint64 {
		v, n := binary.Uvarint(rest)
		if n <= 0 {
			rest = nil
			return math.MaxUint64
		}
		rest = rest[n:]
		return v
	}
	l := []uint64{next(), next(), next(), next()}
	if slices.Max(l) > math.MaxInt32 || l[3] > api.MaxNums {
		return api.Msg{}, false
	}
	m := api.Msg{From: int(l[0]), To: int(l[1]), Kind: int(l[2])}
	for range l[3] {
		u := next()
		m.Nums = append(m.Nums, int(int64(u>>1)^-int64(u&1)))
	}
	if next(); len(rest) > maxData {
		return api.Msg{}, false
	}
	m.Data = rest
	return m, bytes.Equal(bytesOf(m), p)
}

// isReadAsWords asks of a whole record what the chapter's words make of it, and of nothing else.
func isReadAsWords(t *testing.T, name string, p []byte) {
	t.Helper()
	b := record(p)
	if m, ok := readOf(p); ok {
		isRead(t, name, b, m, len(b))
		return
	}
	isRefused(t, name, b, api.ErrForm)
}

// TestP3_2 is Decode of records as the chapter's words have them.
func TestP3_2(t *testing.T) {
	isRead(t, "the example", record([]byte{1, 2, 3, 2, 1, 0xd8, 4, 1, 0xab}), api.Msg{From: 1, To: 2, Kind: 3, Nums: []int{-1, 300}, Data: []byte{0xab}}, 17)
	isRead(t, "a message of nothing", record(make([]byte, 5)), api.Msg{}, 13)
	for _, m := range all() {
		b := record(bytesOf(m))
		isRead(t, "a message", b, m, len(b))
	}
}

// TestP3_2Behind is Decode of records with anything behind them, which does not count.
func TestP3_2Behind(t *testing.T) {
	for _, m := range all() {
		b := record(bytesOf(m))
		for _, behind := range [][]byte{{0}, {0x80}, {0xff, 0xff, 0xff, 0xff, 0xff, 0xff, 0xff, 0xff}, row(7, 11), row(40, 12), record(make([]byte, 5)), record(nil)} {
			isRead(t, "a message with something behind", slices.Concat(b, behind), m, len(b))
		}
	}
}

// TestP3_2Record is Decode of bytes that chapter 2 refuses: its error is told.
func TestP3_2Record(t *testing.T) {
	isRefused(t, "nil", nil, api.ErrShort)
	isRefused(t, "seven zeros", make([]byte, 7), api.ErrShort)
	isRefused(t, "eight zeros", make([]byte, 8), api.ErrSum)
	isRefused(t, "too great a length", bytes.Repeat([]byte{0xff}, 8), api.ErrLong)
	isRefused(t, "a record that is too long", record(make([]byte, api.MaxFrame+1)), api.ErrLong)
	for _, m := range small() {
		whole := record(bytesOf(m))
		for i := range whole {
			isRefused(t, "a torn record", whole[:i], api.ErrShort)
			b := bytes.Clone(whole)
			b[i] ^= 0x10
			_, _, want := frame.Decode(b)
			isRefused(t, "a changed byte", b, want)
			if i >= 4 && want != api.ErrSum {
				t.Errorf("%x: %d", b, want)
			}
		}
	}
}

// TestP3_2Order is Decode of records that are refused and hold no message: chapter 2's error is named first.
func TestP3_2Order(t *testing.T) {
	for _, p := range [][]byte{nil, {0}, {0x80}, make([]byte, 6), bytes.Repeat([]byte{0xff}, 30)} {
		b := record(p)
		isRefused(t, "no message", b, api.ErrForm)
		isRefused(t, "no message in a torn record", b[:len(b)-1], api.ErrShort)
		b[5] ^= 1
		isRefused(t, "no message beside a wrong sum", b, api.ErrSum)
	}
	long := slices.Concat([]byte{0, 0, 0, 0}, number(api.MaxFrame), make([]byte, api.MaxFrame))
	isRefused(t, "too much Data in too long a record", record(long), api.ErrLong)
}

// longer is a number's bytes with one more, that says nothing.
func longer(b []byte) []byte {
	c := append(bytes.Clone(b), 0)
	c[len(b)-1] |= 0x80
	return c
}

// TestP3_2Longer is Decode of numbers that are longer than they need be, each of a message's.
func TestP3_2Longer(t *testing.T) {
	for _, m := range small() {
		l := partsOf(m)
		for i := range len(l) - 1 {
			c := slices.Clone(l)
			for len(c[i]) < 12 {
				c[i] = longer(c[i])
				isRefused(t, "a number that is too long", record(slices.Concat(c...)), api.ErrForm)
			}
		}
	}
}

// TestP3_2Great is Decode of a From, a To or a Kind above 2^31 - 1, also where its lowest digits are right.
func TestP3_2Great(t *testing.T) {
	for i := range 3 {
		l := partsOf(api.Msg{From: 5, To: 6, Kind: 7, Nums: []int{1}, Data: []byte{2}})
		for _, v := range []uint64{1 << 31, 1<<31 + 1, 1<<32 - 1, 1 << 32, 1<<32 + 5, 1<<40 + 5, 1<<63 - 1, 1 << 63, 1<<63 + 5, math.MaxUint64 - 5, math.MaxUint64} {
			l[i] = number(v)
			isRefused(t, "a number that is too great", record(slices.Concat(l...)), api.ErrForm)
		}
		for _, b := range [][]byte{append(bytes.Repeat([]byte{0xff}, 9), 2), append(bytes.Repeat([]byte{0x80}, 9), 2), bytes.Repeat([]byte{0xff}, 10)} {
			l[i] = b
			isRefused(t, "a number above all", record(slices.Concat(l...)), api.ErrForm)
		}
		l[i] = number(math.MaxInt32)
		if _, _, e := wire.Decode(record(slices.Concat(l...))); e != api.OK {
			t.Errorf("the greatest: %d", e)
		}
	}
}

// TestP3_2Count is Decode of counts of Nums that are told too great: above what is there, above MaxNums, above all.
func TestP3_2Count(t *testing.T) {
	for _, n := range []int{0, 1, 2, api.MaxNums - 1, api.MaxNums} {
		l := partsOf(api.Msg{Nums: make([]int, n)})
		for _, v := range []uint64{uint64(n) + 2, api.MaxNums + 1, api.MaxNums + 2, 1 << 20, 1<<31 - 1, 1 << 31, 1<<32 + uint64(n), 1 << 62, 1<<63 + uint64(n), math.MaxUint64} {
			l[3] = number(v)
			isRefused(t, "a count that is too great", record(slices.Concat(l...)), api.ErrForm)
		}
	}
	for _, n := range []int{api.MaxNums + 1, api.MaxNums + 2, 3 * api.MaxNums} {
		isRefused(t, "too many Nums, all there", record(bytesOf(api.Msg{Nums: make([]int, n)})), api.ErrForm)
		isRefused(t, "too many Nums, Data behind", record(bytesOf(api.Msg{Nums: make([]int, n), Data: []byte{1}})), api.ErrForm)
	}
}

// TestP3_2Signed is Decode of Nums at and above the ends of their type.
func TestP3_2Signed(t *testing.T) {
	head := []byte{1, 2, 3, 1}
	for _, v := range []uint64{math.MaxUint64, math.MaxUint64 - 1, 1 << 63, 1<<63 - 1, 1<<32 + 1, 1 << 32, 1<<32 - 1, 1<<32 - 2} {
		n := int64(v>>1) ^ -int64(v&1)
		b := record(slices.Concat(head, number(v), []byte{0}))
		if int64(int(n)) != n {
			isRefused(t, "a number that is no int", b, api.ErrForm)
			continue
		}
		isRead(t, "a number", b, api.Msg{From: 1, To: 2, Kind: 3, Nums: []int{int(n)}}, len(b))
	}
	for _, b := range [][]byte{append(bytes.Repeat([]byte{0xff}, 9), 2), append(bytes.Repeat([]byte{0xff}, 9), 0x81, 0), append(bytes.Repeat([]byte{0x80}, 9), 0), bytes.Repeat([]byte{0x80}, 10)} {
		isRefused(t, "a number above all", record(slices.Concat(head, b, []byte{0})), api.ErrForm)
	}
}

// TestP3_2Data is Decode of lengths of Data that are other than what is there, or above the most.
func TestP3_2Data(t *testing.T) {
	head := []byte{1, 2, 3, 0}
	for _, n := range []int{0, 1, 2, 127, 128, maxData} {
		for _, v := range []uint64{uint64(n) + 1, uint64(n) - 1, 2*uint64(n) + 3, maxData + 1, 1<<31 - 1, 1 << 31, 1<<32 + uint64(n), 1<<63 + uint64(n), math.MaxUint64} {
			isRefused(t, "a length that is wrong", record(slices.Concat(head, number(v), make([]byte, n))), api.ErrForm)
		}
	}
	for _, n := range []int{maxData + 1, maxData + 2, api.MaxFrame - 7} {
		p := bytesOf(api.Msg{Data: row(n, 13)})
		isRefused(t, "too much Data, all there", record(p), api.ErrForm)
		if _, _, e := frame.Decode(record(p)); e != api.OK {
			t.Errorf("%d bytes: chapter 2 tells %d", n, e)
		}
	}
}

// TestP3_2Missing is Decode of records whose bytes end too early, or go on behind the message.
func TestP3_2Missing(t *testing.T) {
	for _, m := range small() {
		p := bytesOf(m)
		for i := range p {
			isRefused(t, "bytes that are missing", record(p[:i]), api.ErrForm)
			isReadAsWords(t, "a byte that is missing", slices.Concat(p[:i], p[i+1:]))
		}
		for _, behind := range [][]byte{{0}, {1}, {0x80}, {0xff}, {0, 0}, row(9, 14), p} {
			isRefused(t, "bytes that are left over", record(slices.Concat(p, behind)), api.ErrForm)
		}
	}
}

// TestP3_2Words is Decode of all rows of up to seven of some bytes, each in a record.
func TestP3_2Words(t *testing.T) {
	of := []byte{0, 1, 2, 0x7f, 0x80, 0xff}
	p := make([]byte, 0, 7)
	var walk func()
	walk = func() {
		isReadAsWords(t, "a row", p)
		if len(p) == cap(p) {
			return
		}
		for _, c := range of {
			p = append(p, c)
			walk()
			p = p[:len(p)-1]
		}
	}
	walk()
}

// TestP3_3 is Decode of what Encode makes, with and without something behind.
func TestP3_3(t *testing.T) {
	for _, m := range all() {
		b, e := wire.Encode(m)
		if e != api.OK {
			t.Fatal(e)
		}
		isRead(t, "there and back", b, m, len(b))
		isRead(t, "there and back, twice", slices.Concat(b, b), m, len(b))
	}
}

// TestP3_3Any is Decode of bytes of all kinds, bare and in records: it ends, and takes what the chapter's words make alone.
func TestP3_3Any(t *testing.T) {
	for i := range uint64(4000) {
		b := row(int(i%60), i)
		if m, n, e := wire.Decode(b); e == api.OK || n != 0 || !same(m, api.Msg{}) {
			t.Errorf("%x: %v %d %d", b, m, n, e)
		}
		isReadAsWords(t, "any bytes", b)
		// Small numbers are messages more often.
		for j := range b {
			b[j] &= 3
		}
		isReadAsWords(t, "any small bytes", b)
	}
}

// TestP3_3Changed is Decode of messages with one byte changed, each to each other one, and their sums made anew.
func TestP3_3Changed(t *testing.T) {
	for _, m := range small() {
		p := bytesOf(m)
		for i := range min(len(p), 40) {
			for by := 1; by < 256; by++ {
				p[i] ^= byte(by)
				isReadAsWords(t, "a changed byte", p)
				p[i] ^= byte(by)
			}
		}
	}
}
