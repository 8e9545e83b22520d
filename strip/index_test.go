package strip_test

import (
	"bytes"
	"encoding/binary"
	"math"
	"slices"
	"testing"

	"garner/api"
	"garner/strip"
)

// keys are such as a place may have, rising: 0, the greatest, such as take each number of bytes.
func keys() []uint64 {
	l := []uint64{0, 1, 2, 126, 1<<62 + 1, math.MaxUint64 - 1, math.MaxUint64}
	for digits := 7; digits < 64; digits += 7 {
		l = append(l, 1<<digits-1, 1<<digits, 1<<digits+1)
	}
	return slices.Compact(slices.Sorted(slices.Values(l)))
}

// bounds are such as an At and an N may be.
func bounds() []int {
	return []int{0, 1, 127, 128, 255, 16383, 16384, 1<<21 - 1, 1 << 21, api.MaxVolume - 1, api.MaxVolume}
}

// places are some of all kinds, of keys that rise.
func places() []api.Place {
	cookies := []uint32{0, 1, 255, 256, 1 << 31, math.MaxUint32 - 1, math.MaxUint32, 0x01020304}
	var l []api.Place
	for i, key := range keys() {
		l = append(l, api.Place{Key: key, At: bounds()[i%11], N: bounds()[i*7%11], Cookie: cookies[i%8], Dead: i%3 == 1})
	}
	return l
}

// places are n drawn ones, of keys that rise.
func (x *drawn) places(n int) []api.Place {
	var l []api.Place
	key := uint64(x.below(3))
	for range n {
		l = append(l, api.Place{Key: key, At: x.below(api.MaxVolume + 1), N: x.below(api.MaxVolume + 1), Cookie: uint32(x.below(1<<24)) * 257, Dead: x.below(3) == 0})
		key += 1 + uint64(x.below(400))<<x.below(40)
	}
	return l
}

// isThereAndBack asks Index for the bytes of places, and ReadIndex of these for them.
func isThereAndBack(t *testing.T, l []api.Place) {
	t.Helper()
	b := record(inside(l))
	isIndex(t, l, b, api.OK)
	isReadIndex(t, "an index", b, l, api.OK)
}

// TestP14_5Hand is an index that was written by hand.
func TestP14_5Hand(t *testing.T) {
	isIndex(t, nil, record([]byte{0}), api.OK)
	l := []api.Place{{Key: 1, At: 8, N: 32, Cookie: 5}, {Key: 300, At: 40, N: 200, Cookie: 0x01020304, Dead: true}}
	b := record([]byte{2, 1, 8, 32, 0, 0, 0, 5, 0, 0xac, 0x02, 40, 0xc8, 0x01, 1, 2, 3, 4, 1})
	isIndex(t, l, b, api.OK)
	isReadIndex(t, "by hand", b, l, api.OK)
}

// TestP14_5 is Index and ReadIndex of no place, of one, of many, of dead ones, of the greatest numbers.
func TestP14_5(t *testing.T) {
	isThereAndBack(t, nil)
	isThereAndBack(t, []api.Place{})
	isThereAndBack(t, places())
	for _, p := range places() {
		isThereAndBack(t, []api.Place{p})
	}
	for _, at := range bounds() {
		for _, n := range bounds() {
			isThereAndBack(t, []api.Place{{At: at, N: n}})
			isThereAndBack(t, []api.Place{{Key: math.MaxUint64, At: at, N: n, Cookie: math.MaxUint32, Dead: true}})
		}
	}
	x := drawn(81)
	for n := range 300 {
		isThereAndBack(t, x.places(n))
	}
	// Places that lie upon one another, and that end behind MaxVolume, for the chapter holds no two numbers against each other but Keys.
	isThereAndBack(t, []api.Place{{Key: 1, At: 40, N: 32}, {Key: 2, At: 40, N: 32}, {Key: 3, At: 8, N: 8}, {Key: 4, At: api.MaxVolume, N: api.MaxVolume}})
}

// TestP14_5Many is 65536 places and one more, one less, and one more of which something else is wrong: that is named first.
func TestP14_5Many(t *testing.T) {
	l := make([]api.Place, 65538)
	for i := range l {
		l[i] = api.Place{Key: uint64(i), At: i * 32, N: 32, Cookie: 7, Dead: i%2 == 1}
	}
	isThereAndBack(t, l[:65535])
	isThereAndBack(t, l[:65536])
	isThereAndBack(t, l[2:])
	for _, n := range []int{65537, 65538} {
		isIndex(t, l[:n], nil, api.ErrLong)
		isReadIndex(t, "too many", record(inside(l[:n])), nil, api.ErrForm)
	}
	for _, at := range []int{0, 1, 65535, 65536, 65537} {
		was := l[at]
		for _, p := range []api.Place{{Key: was.Key, At: -1}, {Key: was.Key, N: -1}, {Key: was.Key, At: api.MaxVolume + 1}, {Key: was.Key, N: api.MaxVolume + 1}, {Key: math.MaxUint64, At: -1}} {
			l[at] = p
			isIndex(t, l, nil, api.ErrArg)
		}
		l[at] = was
		if at > 0 {
			l[at].Key = uint64(at - 1)
			isIndex(t, l, nil, api.ErrArg)
			l[at] = was
		}
	}
}

// TestP14_5Record is places that take just as many bytes as a record of chapter 2 has, and one more.
func TestP14_5Record(t *testing.T) {
	const count = 60000
	l := make([]api.Place, count)
	for i := range l {
		l[i] = api.Place{Key: 1<<42 + uint64(i), At: 1 << 14, N: 127, Cookie: math.MaxUint32}
	}
	// A byte more for each N that is 128 or above.
	for i := range api.MaxFrame - len(inside(l)) {
		if i < count {
			l[i].N = 128
		} else {
			l[i-count].N = 1 << 14
		}
	}
	if n := len(inside(l)); n != api.MaxFrame {
		t.Fatalf("%d bytes", n)
	}
	isThereAndBack(t, l)
	l[count-1].N *= 128
	if n := len(inside(l)); n != api.MaxFrame+1 {
		t.Fatalf("%d bytes", n)
	}
	isIndex(t, l, nil, api.ErrLong)
	isReadIndex(t, "a record that is too long", record(inside(l)), nil, api.ErrLong)
	l[0].At = -1
	isIndex(t, l, nil, api.ErrArg)
}

// TestP14_5Refused is Keys that are equal or fall, At or N below 0 or above MaxVolume, at each place of a list.
func TestP14_5Refused(t *testing.T) {
	bad := []int{-1, -2, -128, math.MinInt32, math.MinInt + 1, math.MinInt, api.MaxVolume + 1, api.MaxVolume + 2, 2 * api.MaxVolume, math.MaxInt32, 1 << 32, 1<<32 + 1, math.MaxInt - 1, math.MaxInt}
	for i := range places() {
		for _, n := range bad {
			at, size := places(), places()
			at[i].At, size[i].N = n, n
			isIndex(t, at, nil, api.ErrArg)
			isIndex(t, size, nil, api.ErrArg)
			isIndex(t, at[i:i+1], nil, api.ErrArg)
			isIndex(t, size[i:i+1], nil, api.ErrArg)
		}
		if i == 0 {
			continue
		}
		equal, falls, last := places(), places(), places()
		equal[i].Key = equal[i-1].Key
		isIndex(t, equal, nil, api.ErrArg)
		falls[i], falls[i-1] = falls[i-1], falls[i]
		isIndex(t, falls, nil, api.ErrArg)
		last[i-1].Key = math.MaxUint64
		isIndex(t, last, nil, api.ErrArg)
		last[i].Key = 0
		isIndex(t, last[i-1:i+1], nil, api.ErrArg)
	}
	same := places()[3]
	isIndex(t, []api.Place{same, same}, nil, api.ErrArg)
	isIndex(t, []api.Place{{Key: 1 << 63}, {Key: 1}}, nil, api.ErrArg)
}

// TestP14_5Turned is ReadIndex of records of which one digit was turned: chapter 2's error.
func TestP14_5Turned(t *testing.T) {
	for _, l := range [][]api.Place{nil, places()[:1], places()} {
		b := record(inside(l))
		for digit := range len(b) * 8 {
			b[digit/8] ^= 1 << (digit % 8)
			want := api.ErrSum
			if length := binary.BigEndian.Uint32(b); length > api.MaxFrame {
				want = api.ErrLong
			} else if int(length) > len(b)-8 {
				want = api.ErrShort
			}
			isReadIndex(t, "a digit", b, nil, want)
			b[digit/8] ^= 1 << (digit % 8)
		}
	}
}

// TestP14_5Short is ReadIndex of records that end too early, wherever.
func TestP14_5Short(t *testing.T) {
	isReadIndex(t, "nil", nil, nil, api.ErrShort)
	isReadIndex(t, "no bytes", []byte{}, nil, api.ErrShort)
	b := record(inside(places()))
	for n := range b {
		isReadIndex(t, "torn", b[:n], nil, api.ErrShort)
		isReadIndex(t, "torn, alone", slices.Clip(bytes.Clone(b[:n])), nil, api.ErrShort)
	}
	isReadIndex(t, "a length that no record has", []byte{0, 0x10, 0, 1, 0, 0, 0, 0}, nil, api.ErrLong)
}

// TestP14_5Behind is bytes behind the record, whatever they are: ErrForm, but behind a record that chapter 2 refuses its error.
func TestP14_5Behind(t *testing.T) {
	x := drawn(82)
	for _, l := range [][]api.Place{nil, places()[:1], places()} {
		b := record(inside(l))
		for _, behind := range [][]byte{{0}, {1}, {255}, x.row(7), x.row(8), b, record(nil), make([]byte, 100)} {
			isReadIndex(t, "something behind", slices.Concat(b, behind), nil, api.ErrForm)
			torn := slices.Concat(b, behind)
			torn[7] ^= 1
			isReadIndex(t, "something behind, the sum wrong", torn, nil, api.ErrSum)
			other := slices.Concat(record([]byte{1}), behind)
			isReadIndex(t, "something behind, no index inside", other, nil, api.ErrForm)
		}
		isReadIndex(t, "the record alone, room behind", slices.Concat(b, x.row(9))[:len(b)], l, api.OK)
	}
}

// isNoIndex asks ReadIndex for ErrForm of a record of these bytes.
func isNoIndex(t *testing.T, name string, inside []byte) {
	t.Helper()
	isReadIndex(t, name, record(inside), nil, api.ErrForm)
}

// TestP14_5Inside is records whose inside is no Index: cut short, with something behind, with another count.
func TestP14_5Inside(t *testing.T) {
	isNoIndex(t, "nothing", nil)
	for _, l := range [][]api.Place{nil, places()[:1], places()[:2], places()} {
		b := inside(l)
		for n := range b {
			isNoIndex(t, "cut short", b[:n])
		}
		for _, behind := range [][]byte{{0}, {1}, {0x80}, {255}, make([]byte, 8), placeBytes(api.Place{Key: math.MaxUint64}), b} {
			isNoIndex(t, "something behind", slices.Concat(b, behind))
		}
		rest := b[1:]
		for _, count := range []uint64{0, 1, 2, 3, uint64(len(l)) - 1, uint64(len(l)) + 1, 65536, 65537, 1 << 31, 1 << 32, 1<<32 + uint64(len(l)), 1 << 63, math.MaxUint64 - 1, math.MaxUint64} {
			if count != uint64(len(l)) {
				isNoIndex(t, "another count", append(binary.AppendUvarint(nil, count), rest...))
			}
		}
	}
}

// longer is a number as one byte more than it must be, or so many more.
func longer(v uint64, more int) []byte {
	b := binary.AppendUvarint(nil, v)
	b[len(b)-1] |= 0x80
	return append(append(b, bytes.Repeat([]byte{0x80}, more-1)...), 0)
}

// TestP14_5Longer is numbers that are longer than they must be, or such as are no numbers at all: the count, a Key, an At, an N.
func TestP14_5Longer(t *testing.T) {
	tail := []byte{0, 0, 0, 9, 0}
	eleven := append(bytes.Repeat([]byte{0x80}, 10), 0x01)
	above := append(bytes.Repeat([]byte{0xff}, 9), 0x02)
	for _, v := range []uint64{0, 1, 5, 127, 128, 300, 1 << 20} {
		for _, number := range [][]byte{longer(v, 1), longer(v, 2), longer(v, 5), eleven, above, {0x80}, {0xff, 0xff}} {
			isNoIndex(t, "the count", number)
			isNoIndex(t, "the count, places behind", slices.Concat(number, bytes.Repeat(append([]byte{7, 8, 9}, tail...), 3)))
			isNoIndex(t, "a Key", slices.Concat([]byte{1}, number, []byte{8, 9}, tail))
			isNoIndex(t, "an At", slices.Concat([]byte{1, 7}, number, []byte{9}, tail))
			isNoIndex(t, "an N", slices.Concat([]byte{1, 7, 8}, number, tail))
		}
	}
	isReadIndex(t, "none of these", record(append([]byte{1, 7, 8, 9}, tail...)), []api.Place{{Key: 7, At: 8, N: 9, Cookie: 9}}, api.OK)
}

// TestP14_5Flag is flags that are neither 00 nor 01.
func TestP14_5Flag(t *testing.T) {
	l := places()[:3]
	for i := range l {
		for flag := 2; flag < 256; flag++ {
			b := []byte{3}
			for j, p := range l {
				b = append(b, placeBytes(p)...)
				if i == j {
					b[len(b)-1] = byte(flag)
				}
			}
			isNoIndex(t, "a flag", b)
		}
	}
}

// TestP14_5Bounds is places of which an At or an N is above MaxVolume, or Keys do not rise.
func TestP14_5Bounds(t *testing.T) {
	for _, n := range []uint64{api.MaxVolume + 1, api.MaxVolume + 2, 1<<31 - 1, 1 << 31, 1 << 32, 1<<32 + 1, 1<<63 - 1, 1 << 63, 1<<63 + 1, math.MaxUint64} {
		number := binary.AppendUvarint(nil, n)
		isNoIndex(t, "an At", slices.Concat([]byte{1, 7}, number, []byte{9, 0, 0, 0, 0, 0}))
		isNoIndex(t, "an N", slices.Concat([]byte{1, 7, 8}, number, []byte{0, 0, 0, 0, 0}))
	}
	for i := 1; i < len(places()); i++ {
		equal, falls := places(), places()
		equal[i].Key = equal[i-1].Key
		isNoIndex(t, "Keys that are equal", inside(equal))
		falls[i], falls[i-1] = falls[i-1], falls[i]
		isNoIndex(t, "Keys that fall", inside(falls))
	}
}

// paperPlaces is an index's inside as the chapter's words have it: false, if Index makes no such bytes.
func paperPlaces(b []byte) ([]api.Place, bool) {
	ok := true
	number := func(most uint64) uint64 {
		v, n := binary.Uvarint(b)
		if n <= 0 || v > most || n > 1 && b[n-1] == 0 {
			ok, b = false, nil
			return 0
		}
		b = b[n:]
		return v
	}
	count := number(65536)
	var l []api.Place
	for ok && uint64(len(l)) < count {
		p := api.Place{Key: number(math.MaxUint64), At: int(number(api.MaxVolume)), N: int(number(api.MaxVolume))}
		if len(b) < 5 || b[4] > 1 || len(l) > 0 && p.Key <= l[len(l)-1].Key {
			return nil, false
		}
		p.Cookie, p.Dead = binary.BigEndian.Uint32(b), b[4] == 1
		l, b = append(l, p), b[5:]
	}
	return l, ok && len(b) == 0
}

// TestP14_5Words is records of all short rows of some bytes, and of indexes that were changed here and there, held against the chapter's words.
func TestP14_5Words(t *testing.T) {
	held := func(p []byte) {
		want, ok := paperPlaces(p)
		if ok {
			isReadIndex(t, "held against the words", record(p), want, api.OK)
			isIndex(t, want, record(p), api.OK)
		} else {
			isNoIndex(t, "held against the words", p)
		}
	}
	some := []byte{0, 1, 2, 0x7f, 0x80, 0xff}
	for n := range 5 {
		row := make([]byte, n)
		for at := 0; at < n || n == 0; {
			held(row)
			// Counts up in the numbers that some are.
			for at = 0; at < n; at++ {
				next := bytes.IndexByte(some, row[at]) + 1
				if next < len(some) {
					row[at] = some[next]
					break
				}
				row[at] = some[0]
			}
			if n == 0 {
				break
			}
		}
	}
	x := drawn(83)
	for range 50000 {
		b := inside(x.places(x.below(4)))
		for range x.below(3) {
			at := x.below(len(b))
			switch x.below(4) {
			case 0:
				b[at] = some[x.below(len(some))]
			case 1:
				b[at] ^= x.next()
			case 2:
				b = slices.Insert(b, at, some[x.below(len(some))])
			default:
				b = append(slices.Delete(b, at, at+1), 0)[:len(b)-1]
				if len(b) == 0 {
					b = []byte{0}
				}
			}
		}
		held(b)
	}
}

// isFind asks for the place of a key.
func isFind(t *testing.T, l []api.Place, key uint64, want api.Place, wantOK bool) {
	t.Helper()
	if got, ok := strip.Find(l, key); got != want || ok != wantOK {
		t.Fatalf("Find of %d in %d places: %v, %t, not %v, %t", key, len(l), got, ok, want, wantOK)
	}
}

// TestP14_5Find is each key that is there, and those between, below and above, of lists of each length.
func TestP14_5Find(t *testing.T) {
	isFind(t, nil, 0, api.Place{}, false)
	isFind(t, []api.Place{}, 7, api.Place{}, false)
	x := drawn(84)
	lists := [][]api.Place{places()}
	for n := range 70 {
		lists = append(lists, x.places(n))
		var dense []api.Place
		for i := range n {
			dense = append(dense, api.Place{Key: uint64(10 + 2*i), At: i, N: 1 + i, Cookie: uint32(i), Dead: i%2 == 0})
		}
		lists = append(lists, dense)
	}
	for _, l := range lists {
		for key := range uint64(160) {
			isFind(t, l, key, paperFind(l, key), slices.ContainsFunc(l, func(p api.Place) bool { return p.Key == key }))
		}
		for i, p := range l {
			isFind(t, l, p.Key, p, true)
			if p.Key > 0 && (i == 0 || l[i-1].Key < p.Key-1) {
				isFind(t, l, p.Key-1, api.Place{}, false)
			}
			if p.Key < math.MaxUint64 && (i == len(l)-1 || l[i+1].Key > p.Key+1) {
				isFind(t, l, p.Key+1, api.Place{}, false)
			}
		}
	}
	great := make([]api.Place, 65536)
	for i := range great {
		great[i] = api.Place{Key: uint64(3*i + 1), At: i, N: 5}
	}
	for i, p := range great {
		isFind(t, great, p.Key, p, true)
		isFind(t, great, p.Key-1, api.Place{}, false)
		isFind(t, great, p.Key+1, api.Place{}, false)
		isFind(t, great[:i], p.Key, api.Place{}, false)
	}
}

// paperFind is the place of a key, one by one.
func paperFind(l []api.Place, key uint64) api.Place {
	for _, p := range l {
		if p.Key == key {
			return p
		}
	}
	return api.Place{}
}

// TestW1Find is Find of places whose Keys do not rise: it ends, and tells no place of another key, nor anything beside false.
func TestW1Find(t *testing.T) {
	x := drawn(85)
	for range 20000 {
		l := make([]api.Place, x.below(40))
		for i := range l {
			l[i] = api.Place{Key: uint64(x.below(20)), At: -x.below(3), N: x.below(1 << 24), Cookie: 3}
		}
		key := uint64(x.below(22))
		p, ok := strip.Find(l, key)
		if ok && !slices.Contains(l, p) || ok && p.Key != key || !ok && p != (api.Place{}) {
			t.Fatalf("Find of %d in %v: %v, %t", key, l, p, ok)
		}
	}
}
