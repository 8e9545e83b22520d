package fid_test

import (
	"math"
	"testing"

	"garner/api"
	"garner/fid"
)

// TestP15_1Paper is Text of some file ids, byte by byte, worked out by hand.
func TestP15_1Paper(t *testing.T) {
	for _, x := range []struct {
		f    api.Fid
		want string
	}{
		{api.Fid{Volume: 3, Key: 255, Cookie: 1}, "3,ff,00000001"},
		{api.Fid{Volume: 1, Key: 1}, "1,1,00000000"},
		{api.Fid{Volume: 2, Key: 9, Cookie: 9}, "2,9,00000009"},
		{api.Fid{Volume: 9, Key: 10, Cookie: 10}, "9,a,0000000a"},
		{api.Fid{Volume: 10, Key: 15, Cookie: 15}, "10,f,0000000f"},
		{api.Fid{Volume: 11, Key: 16, Cookie: 16}, "11,10,00000010"},
		{api.Fid{Volume: 99, Key: 17, Cookie: 17}, "99,11,00000011"},
		{api.Fid{Volume: 100, Key: 256, Cookie: 256}, "100,100,00000100"},
		{api.Fid{Volume: 4711, Key: 48879, Cookie: 1 << 31}, "4711,beef,80000000"},
		{api.Fid{Volume: 10203040, Key: 1 << 63, Cookie: 0x0a0b0c0d}, "10203040,8000000000000000,0a0b0c0d"},
		{api.Fid{Volume: 12345678, Key: 0x0123456789abcdef, Cookie: 0x89abcdef}, "12345678,123456789abcdef,89abcdef"},
		{api.Fid{Volume: 99999998, Key: math.MaxUint64 - 1, Cookie: math.MaxUint32 - 1}, "99999998,fffffffffffffffe,fffffffe"},
		{api.Fid{Volume: 99999999, Key: math.MaxUint64, Cookie: math.MaxUint32}, "99999999,ffffffffffffffff,ffffffff"},
	} {
		isText(t, x.f, x.want)
	}
}

// TestP15_1 is Text of each volume, key and cookie of the lists, byte by byte, each with each other.
func TestP15_1(t *testing.T) {
	for _, v := range volumes() {
		for _, k := range keys() {
			for _, c := range cookies() {
				f := api.Fid{Volume: v, Key: k, Cookie: c}
				isText(t, f, laid(f))
			}
		}
	}
	for v := 1; v < 100000000; v += 98765 {
		f := api.Fid{Volume: v, Key: uint64(v), Cookie: uint32(v)}
		isText(t, f, laid(f))
	}
}

// TestP15_1Digits is Text of keys and cookies with each digit at each place.
func TestP15_1Digits(t *testing.T) {
	for place := range 16 {
		for digit := range uint64(16) {
			f := api.Fid{Volume: 7, Key: 1<<63 | digit<<(4*place), Cookie: uint32(digit << (4 * (place % 8)))}
			isText(t, f, laid(f))
			f.Key = max(digit, 1) << (4 * place)
			isText(t, f, laid(f))
		}
	}
}

// TestP15_1Drawn is Text of drawn file ids.
func TestP15_1Drawn(t *testing.T) {
	d := draws(1)
	for range 20000 {
		f := d.fid()
		isText(t, f, laid(f))
	}
}

// TestP15_1Volume is Text of volumes that are none, also with a Key that is none.
func TestP15_1Volume(t *testing.T) {
	for _, v := range wrongVolumes() {
		for _, k := range append(keys(), 0) {
			isNoText(t, api.Fid{Volume: v, Key: k})
			isNoText(t, api.Fid{Volume: v, Key: k, Cookie: math.MaxUint32})
		}
	}
}

// TestP15_1Key is Text of the Key 0, with volumes that are some and such as are none.
func TestP15_1Key(t *testing.T) {
	for _, v := range append(volumes(), wrongVolumes()...) {
		for _, c := range cookies() {
			isNoText(t, api.Fid{Volume: v, Cookie: c})
		}
	}
}

// TestP15_1Apart is answers that stay what they are, and come again, whatever is called between them (W2, W7).
func TestP15_1Apart(t *testing.T) {
	var texts []string
	for _, f := range fids() {
		s, _ := fid.Text(f)
		texts = append(texts, s)
		fid.Text(api.Fid{Volume: 99999999, Key: math.MaxUint64, Cookie: math.MaxUint32})
		fid.Text(api.Fid{})
		fid.Parse(s + "0")
	}
	for i, f := range fids() {
		if texts[i] != laid(f) {
			t.Errorf("%v: %q has become %q", f, laid(f), texts[i])
		}
		isText(t, f, texts[i])
		isParsed(t, texts[i], f)
	}
}
