package needle_test

import (
	"bytes"
	"math"
	"slices"
	"testing"

	"garner/api"
	"garner/needle"
)

// behinds are what may stand behind a needle: nothing, one byte, many, a needle.
func behinds() [][]byte {
	return [][]byte{nil, {0}, {0x6e}, {0xff}, row(7, 11), row(40, 12), laid(api.Needle{Key: 9, Cookie: 9, Data: []byte("behind")}), laid(api.Needle{Key: 9, Dead: true}), make([]byte, 64)}
}

// TestP11_2 is Decode of needles as the chapter's words have them, with anything behind.
func TestP11_2(t *testing.T) {
	for _, n := range needles() {
		for _, behind := range behinds() {
			isRead(t, "a needle", append(laid(n), behind...), n)
		}
	}
	for _, length := range lengths() {
		n := api.Needle{Key: 3, Cookie: 4, Data: row(length, 13)}
		isRead(t, "alone", laid(n), n)
		isRead(t, "one byte behind", append(laid(n), 1), n)
	}
}

// TestP11_2Short is Decode of needles that end too early, wherever: with the rest in the room behind the end, and without.
func TestP11_2Short(t *testing.T) {
	isRefused(t, "nil", nil, api.ErrShort)
	isRefused(t, "no bytes", []byte{}, api.ErrShort)
	for _, n := range append(needles(), api.Needle{Key: 1, Data: row(300, 14)}) {
		whole := laid(n)
		for end := range whole {
			isRefused(t, "a torn needle", whole[:end], api.ErrShort)
			isRefused(t, "a torn needle alone", slices.Clip(bytes.Clone(whole[:end])), api.ErrShort)
		}
		isRead(t, "the whole", whole[:len(whole):len(whole)], n)
	}
	for _, length := range lengths() {
		whole := laid(api.Needle{Key: 1, Cookie: 2, Data: row(length, 15)})
		for _, end := range []int{0, 1, 23, 24, 25, 24 + length/2, 24 + length, len(whole) - 8, len(whole) - 1} {
			isRefused(t, "a torn needle", whole[:min(end, len(whole)-1)], api.ErrShort)
		}
	}
}

// isOther asks Decode for ErrForm at a head, alone and with much behind it.
func isOther(t *testing.T, name string, head []byte) {
	t.Helper()
	isRefused(t, name+", alone", head, api.ErrForm)
	for _, behind := range [][]byte{{0}, make([]byte, 8), make([]byte, 200), row(200, 16)} {
		isRefused(t, name, slices.Concat(head, behind), api.ErrForm)
	}
	isRefused(t, name+", and less than a head", head[:23], api.ErrShort)
}

// TestP11_2Head is Decode of heads in which one byte is another one, each of them to each other one, with its own sum behind it and with the right one of what it now tells.
func TestP11_2Head(t *testing.T) {
	for _, n := range []api.Needle{{Key: 1, Cookie: 5, Data: []byte("ab")}, {Key: 1, Cookie: 5, Dead: true}, {}, {Key: math.MaxUint64, Cookie: math.MaxUint32, Data: row(256, 17)}} {
		for i := range 24 {
			for by := 1; by < 256; by++ {
				b := laid(n)
				b[i] ^= byte(by)
				isRefused(t, "a head that is changed", b, api.ErrForm)
				isRefused(t, "a head that is changed, alone", b[:24], api.ErrForm)
				isRefused(t, "a head that is changed, torn", b[:23], api.ErrShort)
			}
		}
		// The bytes that do not tell a key, a cookie or a length: there is one way to write them (two, of the mark).
		for _, i := range []int{0, 1, 2, 3} {
			for c := range 256 {
				b := told(n, uint32(len(n.Data)))
				if c == int(b[i]) || i == 2 && c < 2 {
					continue
				}
				b[i] = byte(c)
				isOther(t, "a sum that is right", summed(b))
			}
		}
	}
}

// TestP11_2Mark is Decode of heads whose mark was exchanged, with a sum that is right: they are those of another needle, if there is no Data.
func TestP11_2Mark(t *testing.T) {
	for _, dead := range []bool{false, true} {
		n := api.Needle{Key: 6, Cookie: 7, Dead: dead}
		b := append(summed(told(n, 0)), make([]byte, 8)...)
		isRead(t, "no Data", b, n)
	}
	for _, length := range []uint32{1, 2, 3, 4, 5, 8, 255, 256, 1 << 15, api.MaxNeedle - 1, api.MaxNeedle} {
		isOther(t, "Dead, and a length", summed(told(api.Needle{Key: 6, Cookie: 7, Dead: true}, length)))
		whole := slices.Concat(summed(told(api.Needle{Key: 6, Cookie: 7, Dead: true}, length)), padded(append(summed(make([]byte, length)), 0, 0, 0, 0)))
		isRefused(t, "Dead, and all of Data", whole, api.ErrForm)
	}
}

// TestP11_2Length is Decode of lengths that no needle has, with a sum that is right, also with as many bytes behind.
func TestP11_2Length(t *testing.T) {
	for _, length := range []uint32{api.MaxNeedle + 1, api.MaxNeedle + 2, api.MaxNeedle + 8, 2 * api.MaxNeedle, 1 << 24, 1<<31 - 36, 1<<31 - 1, 1 << 31, 1<<31 + 1, 1<<32 - 64, 1<<32 - 36, 1<<32 - 32, 1<<32 - 28, 1<<32 - 24, 1<<32 - 1} {
		isOther(t, "too great a length", summed(told(api.Needle{Key: 6, Cookie: 7}, length)))
		isOther(t, "too great a length, Dead", summed(told(api.Needle{Key: 6, Cookie: 7, Dead: true}, length)))
	}
	for _, over := range []int{1, 2, 4, 5, 8, api.MaxNeedle} {
		isRefused(t, "too much Data", laid(api.Needle{Key: 6, Data: row(api.MaxNeedle+over, 18)}), api.ErrForm)
	}
}

// TestP11_2Sum is Decode of heads whose sum is wrong, also such as would be right for other bytes.
func TestP11_2Sum(t *testing.T) {
	n := api.Needle{Key: 6, Cookie: 7, Data: []byte("data")}
	head := told(n, 4)
	for name, other := range map[string][]byte{
		"no bytes":                       nil,
		"all but the end":                head[:19],
		"Data":                           n.Data,
		"both":                           append(bytes.Clone(head), n.Data...),
		"the places ahead of the length": head[:16],
	} {
		sum := summed(other)[len(other):]
		isOther(t, "the sum of "+name, slices.Concat(head, sum))
	}
	isOther(t, "a sum of 0", slices.Concat(head, make([]byte, 4)))
	isOther(t, "a sum of all digits", append(bytes.Clone(head), 255, 255, 255, 255))
	isRefused(t, "zeros", make([]byte, 64), api.ErrForm)
	isRefused(t, "all digits", bytes.Repeat([]byte{255}, 64), api.ErrForm)
}

// TestP11_2Damaged is Decode of needles in which one byte behind the head is another one, each of them to each other one: Data, its sum, the last bytes.
func TestP11_2Damaged(t *testing.T) {
	for _, length := range []int{0, 1, 2, 3, 4, 5, 6, 7, 8, 9, 12, 40} {
		for _, n := range []api.Needle{{Key: 1<<63 + 1, Cookie: 1 << 31, Data: row(length, 19)}, {Key: 5, Cookie: 6, Dead: true}} {
			b := laid(n)
			end := len(b)
			b = append(b, laid(api.Needle{Key: 9})...)
			for i := 24; i < end; i++ {
				for by := 1; by < 256; by++ {
					b[i] ^= byte(by)
					isDamaged(t, "a changed byte", b[:end], n)
					isDamaged(t, "a changed byte, a needle behind", b, n)
					isRefused(t, "a changed byte, and less than the whole", b[:end-1], api.ErrShort)
					b[i] ^= byte(by)
				}
			}
		}
	}
}

// TestP11_2DamagedMore is Decode of needles in which more than one byte behind the head is wrong: all of Data exchanged, sums of other bytes, last bytes that are not 0.
func TestP11_2DamagedMore(t *testing.T) {
	for _, length := range []int{0, 1, 4, 5, 100, api.MaxNeedle - 1, api.MaxNeedle} {
		n := api.Needle{Key: 3, Cookie: 4, Data: row(length, 20)}
		head := laid(n)[:24]
		size := (24 + length + 4 + 7) / 8 * 8
		for name, behind := range map[string][]byte{
			"another sum":        slices.Concat(n.Data, summed([]byte("x"))[1:]),
			"no sum but digits":  slices.Concat(n.Data, bytes.Repeat([]byte{255}, 4)),
			"the head's sum":     slices.Concat(n.Data, head[20:24]),
			"a sum of both":      slices.Concat(n.Data, summed(slices.Concat(head, n.Data))[24+length:]),
			"last bytes":         slices.Concat(summed(n.Data), bytes.Repeat([]byte{1}, 8)),
			"all":                bytes.Repeat([]byte{0xa5}, size),
			"a needle of itself": slices.Concat(laid(n), make([]byte, size)),
		} {
			if name == "last bytes" && size == 28+length {
				continue
			}
			b := append(slices.Concat(head, behind), make([]byte, 16)...)[:size]
			isDamaged(t, name, b, n)
			isRefused(t, name+", torn", b[:size-1], api.ErrShort)
		}
	}
	dead := api.Needle{Key: 3, Cookie: 4, Dead: true}
	head := laid(dead)[:24]
	for _, behind := range [][]byte{{0, 0, 0, 1, 0, 0, 0, 0}, {0, 0, 0, 0, 0, 0, 0, 1}, {0, 0, 0, 0, 1, 0, 0, 0}, row(8, 21), bytes.Repeat([]byte{255}, 8)} {
		isDamaged(t, "a mark", slices.Concat(head, behind), dead)
	}
}

// TestP11_2Order is Decode where more than one thing is wrong: the error that is named first is told.
func TestP11_2Order(t *testing.T) {
	n := api.Needle{Key: 3, Cookie: 4, Data: row(20, 22)}
	wrong := func(places ...int) []byte {
		b := laid(n)
		for _, i := range places {
			b[i] ^= 0x10
		}
		return b
	}
	isRefused(t, "less than a head, and another one", bytes.Repeat([]byte{255}, 23), api.ErrShort)
	isRefused(t, "another head, less than the whole", wrong(5)[:24], api.ErrForm)
	isRefused(t, "another head, one byte less than the whole", wrong(0)[:47], api.ErrForm)
	isRefused(t, "another head and Data that is changed", wrong(23, 24), api.ErrForm)
	isRefused(t, "another head, Data that is changed, less than the whole", wrong(3, 30)[:47], api.ErrForm)
	isRefused(t, "Data that is changed, less than the whole", wrong(30)[:47], api.ErrShort)
	isRefused(t, "too great a length, less than it tells", summed(told(n, api.MaxNeedle+1)), api.ErrForm)
	isRefused(t, "Dead with a length, less than it tells", summed(told(api.Needle{Dead: true}, 1)), api.ErrForm)
	isDamaged(t, "Data and its sum", wrong(30, 45), n)
	isRead(t, "nothing", wrong(), n)
}

// TestP11_3 is Decode of what Encode makes, with anything behind it.
func TestP11_3(t *testing.T) {
	all := needles()
	for _, length := range lengths() {
		all = append(all, api.Needle{Key: uint64(length), Cookie: 77, Data: row(length, 23)})
	}
	for _, n := range all {
		b, e := needle.Encode(n)
		if e != api.OK {
			t.Fatalf("%s: error %d", show(n), e)
		}
		for _, behind := range append(behinds(), b) {
			isRead(t, "with something behind", slices.Concat(b, behind), n)
		}
	}
}

// TestP11_3Row is needles one behind the other, read from the first to the last.
func TestP11_3Row(t *testing.T) {
	var b []byte
	for _, n := range needles() {
		one, e := needle.Encode(n)
		if e != api.OK {
			t.Fatalf("%s: error %d", show(n), e)
		}
		b = append(b, one...)
	}
	for _, want := range needles() {
		isRead(t, "a row", b, want)
		b = b[needle.Size(len(want.Data)):]
	}
	if len(b) != 0 {
		t.Errorf("%d bytes are left", len(b))
	}
}

// isChanged asks Decode for what it must say of a needle whose byte i is another one than Encode made.
func isChanged(t *testing.T, i int, b []byte, n api.Needle) {
	t.Helper()
	if i < 24 {
		isRefused(t, "a byte of the head", b, api.ErrForm)
	} else {
		isDamaged(t, "a byte behind the head", b, n)
	}
}

// TestP11_3Changed is one byte changed anywhere, to any other byte: a Dead one's too, and of Data of each length modulo 8.
func TestP11_3Changed(t *testing.T) {
	all := []api.Needle{{Key: 1, Cookie: 5, Dead: true}, {Dead: true}, {Key: math.MaxUint64, Cookie: math.MaxUint32, Dead: true}, {}, {Key: 2, Cookie: 3, Data: row(64, 24)}}
	for length := range 9 {
		all = append(all, api.Needle{Key: 1<<40 + 3, Cookie: 9, Data: row(length, 25)})
	}
	for _, n := range all {
		b, _ := needle.Encode(n)
		for i := range b {
			for by := 1; by < 256; by++ {
				b[i] ^= byte(by)
				isChanged(t, i, b, n)
				b[i] ^= byte(by)
			}
		}
	}
	for _, length := range []int{api.MaxNeedle - 1, api.MaxNeedle} {
		n := api.Needle{Key: 4, Cookie: 4, Data: row(length, 26)}
		b, _ := needle.Encode(n)
		for i := 0; i < len(b); i += 1 + i/24*250 {
			b[i] ^= byte(1 + i%255)
			isChanged(t, i, b, n)
			b[i] ^= byte(1 + i%255)
		}
		for i := len(b) - 8; i < len(b); i++ {
			b[i] ^= 0x80
			isChanged(t, i, b, n)
			b[i] ^= 0x80
		}
	}
}

// TestP11_3Two is two digits changed, anywhere: no sum is the same.
func TestP11_3Two(t *testing.T) {
	for _, n := range []api.Needle{{Key: 1, Cookie: 5, Data: row(11, 27)}, {Key: 1, Cookie: 5, Dead: true}} {
		b, _ := needle.Encode(n)
		for i := range 8 * len(b) {
			for k := range i {
				b[i/8] ^= 1 << (i % 8)
				b[k/8] ^= 1 << (k % 8)
				isChanged(t, k/8, b, n)
				b[i/8] ^= 1 << (i % 8)
				b[k/8] ^= 1 << (k % 8)
			}
		}
	}
}

// TestW1Decode is Decode of bytes of all kinds: it takes what the chapter's words make, and nothing else.
func TestW1Decode(t *testing.T) {
	for i := range uint64(6000) {
		b := row(int(i%90), i)
		if i%3 > 0 && len(b) >= 24 {
			// A head that may be there, and now and then one that is.
			n := api.Needle{Key: i, Cookie: uint32(i), Dead: i%7 == 0}
			copy(b, summed(told(n, uint32(i%64))))
		}
		n, took, e := needle.Decode(b)
		switch e {
		case api.OK:
			if took > len(b) || !bytes.Equal(b[:took], laid(n)) {
				t.Errorf("%x: %s of %d", b, show(n), took)
			}
		case api.ErrSum:
			if took > len(b) || len(n.Data) != 0 || !bytes.Equal(b[:20], told(n, uint32(b[19]))) || took != needle.Size(int(b[19])) {
				t.Errorf("%x: %s of %d, damaged", b, show(n), took)
			}
		case api.ErrShort, api.ErrForm:
			if took != 0 || !same(n, api.Needle{}) {
				t.Errorf("%x: %s of %d beside the error %d", b, show(n), took, e)
			}
		default:
			t.Errorf("%x: error %d", b, e)
		}
	}
}
