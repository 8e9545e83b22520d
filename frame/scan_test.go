package frame_test

import (
	"bytes"
	"slices"
	"testing"

	"garner/api"
	"garner/frame"
)

// rows are what several records hold: none, one, many bytes; some of them hold the same.
func rows() [][]byte {
	return [][]byte{row(3, 21), {}, {0xab}, row(300, 22), {}, {}, {0xab}, {0}, row(8, 23)}
}

// joined is records one behind the other.
func joined(l [][]byte) []byte {
	var b []byte
	for _, p := range l {
		b = append(b, record(p)...)
	}
	return b
}

// isScanned asks for records, and for the error behind them.
func isScanned(t *testing.T, name string, b []byte, want [][]byte, wantE api.Errno) {
	t.Helper()
	l, n, e := frame.Scan(b)
	if !slices.EqualFunc(l, want, bytes.Equal) || n != len(joined(want)) || e != wantE {
		t.Errorf("%s: %d records of %d bytes, error %d, not %d of %d, error %d", name, len(l), n, e, len(want), len(joined(want)), wantE)
	}
}

// TestP2_3 is Scan of no record, of one, of several, up to a row's end that is a record's end.
func TestP2_3(t *testing.T) {
	isScanned(t, "nil", nil, nil, api.OK)
	isScanned(t, "no bytes", []byte{}, nil, api.OK)
	l := rows()
	for n := range len(l) + 1 {
		isScanned(t, "records", joined(l[:n]), l[:n], api.OK)
	}
	for _, n := range lengths {
		one := [][]byte{row(n, 24)}
		isScanned(t, "one record", joined(one), one, api.OK)
		three := [][]byte{one[0], {}, one[0]}
		isScanned(t, "three records", joined(three), three, api.OK)
	}
	many := slices.Repeat([][]byte{{}, {1}}, 5000)
	isScanned(t, "many records", joined(many), many, api.OK)
}

// TestP2_3Refused is Scan up to the first record that Decode refuses, wherever it stands; good ones behind it do not count.
func TestP2_3Refused(t *testing.T) {
	wrong := record(row(30, 25))
	wrong[20] ^= 1
	for name, x := range map[string]struct {
		b []byte
		e api.Errno
	}{
		"a sum":                  {wrong, api.ErrSum},
		"no bytes and no sum":    {make([]byte, 8), api.ErrSum},
		"too great a length":     {told(api.MaxFrame+1, 0), api.ErrLong},
		"a length's first 1":     {told(1<<31, 0), api.ErrLong},
		"a length below 0":       {told(1<<32-8, 0), api.ErrLong},
		"too long a record":      {record(make([]byte, api.MaxFrame+1)), api.ErrLong},
		"more than what is left": {told(4000, 0), api.ErrShort},
	} {
		l := rows()
		for at := range len(l) + 1 {
			b := slices.Concat(joined(l[:at]), x.b, joined(l[at:]))
			isScanned(t, name, b, l[:at], x.e)
			if p, n, e := frame.Decode(b[len(joined(l[:at])):]); e != x.e || len(p) != 0 || n != 0 {
				t.Errorf("%s: Decode tells %d", name, e)
			}
		}
	}
}

// TestP2_3Tail is Scan of records with some bytes behind that are none.
func TestP2_3Tail(t *testing.T) {
	l := rows()
	for n := 1; n < 8; n++ {
		isScanned(t, "zeros behind", append(joined(l), make([]byte, n)...), l, api.ErrShort)
		isScanned(t, "ones behind", append(joined(l), bytes.Repeat([]byte{0xff}, n)...), l, api.ErrShort)
		isScanned(t, "zeros alone", make([]byte, n), nil, api.ErrShort)
	}
	isScanned(t, "eight zeros behind", append(joined(l), make([]byte, 8)...), l, api.ErrSum)
	isScanned(t, "eight ones behind", append(joined(l), bytes.Repeat([]byte{0xff}, 8)...), l, api.ErrLong)
}

// TestP2_5 is Scan of records that Encode made, cut short at each place.
func TestP2_5(t *testing.T) {
	l := rows()
	var b []byte
	for _, p := range l {
		r, e := frame.Encode(p)
		if e != api.OK {
			t.Fatal(e)
		}
		b = append(b, r...)
	}
	whole, end := 0, 0
	for n := range len(b) + 1 {
		if whole < len(l) && n == end+8+len(l[whole]) {
			end = n
			whole++
		}
		want := api.ErrShort
		if n == end {
			want = api.OK
		}
		isScanned(t, "a torn row", b[:n], l[:whole], want)
	}
	if whole != len(l) {
		t.Errorf("only %d records were whole", whole)
	}
}

// TestW1Scan is Scan of bytes of all kinds: what it tells is what they begin with, and Decode refuses what is behind.
func TestW1Scan(t *testing.T) {
	for i := range uint64(2000) {
		b := append(joined(rows()[:i%9]), row(int(1+i%50), i)...)
		b[int(i*7)%len(b)] ^= byte(i % 3)
		l, n, e := frame.Scan(b)
		if n > len(b) || !bytes.Equal(joined(l), b[:n]) {
			t.Fatalf("%x: %d records of %d bytes", b, len(l), n)
		}
		if e == api.OK {
			if n != len(b) {
				t.Errorf("%x: OK ahead of the end", b)
			}
			continue
		}
		if _, _, want := frame.Decode(b[n:]); e != want {
			t.Errorf("%x: %d, not %d", b, e, want)
		}
	}
}
