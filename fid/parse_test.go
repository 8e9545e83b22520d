package fid_test

import (
	"math"
	"strings"
	"testing"

	"garner/api"
	"garner/fid"
)

// TestP15_2Paper is Parse of some texts, worked out by hand.
func TestP15_2Paper(t *testing.T) {
	for s, want := range map[string]api.Fid{
		"3,ff,00000001":                      {Volume: 3, Key: 255, Cookie: 1},
		"1,1,00000000":                       {Volume: 1, Key: 1},
		"9,9,00000009":                       {Volume: 9, Key: 9, Cookie: 9},
		"10,a,0000000a":                      {Volume: 10, Key: 10, Cookie: 10},
		"11,f,0000000f":                      {Volume: 11, Key: 15, Cookie: 15},
		"100,10,00000010":                    {Volume: 100, Key: 16, Cookie: 16},
		"4711,beef,80000000":                 {Volume: 4711, Key: 48879, Cookie: 1 << 31},
		"10203040,8000000000000000,0a0b0c0d": {Volume: 10203040, Key: 1 << 63, Cookie: 0x0a0b0c0d},
		"12345678,123456789abcdef,89abcdef":  {Volume: 12345678, Key: 0x0123456789abcdef, Cookie: 0x89abcdef},
		"99999998,fffffffffffffffe,fffffffe": {Volume: 99999998, Key: math.MaxUint64 - 1, Cookie: math.MaxUint32 - 1},
		"99999999,ffffffffffffffff,ffffffff": {Volume: 99999999, Key: math.MaxUint64, Cookie: math.MaxUint32},
		"5,c0ffee,00c0ffee":                  {Volume: 5, Key: 0xc0ffee, Cookie: 0xc0ffee},
	} {
		isParsed(t, s, want)
	}
}

// TestP15_2Wrong is Parse of texts that Text makes of no file id, each with the reason.
func TestP15_2Wrong(t *testing.T) {
	for _, x := range []struct {
		why   string
		texts []string
	}{
		{"the examples", []string{"3,0ff,00000001", "3,ff,1"}},
		{"nothing, or nearly", []string{"", " ", "0", "1", ",", ",,", ",,,", "3", "3,", "3,ff", "3,ff,", ",ff,00000001", "3,,00000001", ",,00000001", "3,,", ",ff,", ",ff", "\x00"}},
		{"noughts ahead of Volume", []string{"03,ff,00000001", "00000003,ff,00000001", "000000003,ff,00000001", "0099999999,ff,00000001"}},
		{"noughts ahead of Key", []string{"3,0A,00000001", "3,0a,00000001", "3,01,00000001", "3,0000000000000001,00000001", "3,00000000000000001,00000001", "3,0ffffffffffffffff,00000001"}},
		{"Key 0", []string{"3,0,00000001", "3,00,00000001", "3,0000000000000000,00000001", "3,00000000000000000,00000001"}},
		{"a Volume that is none", []string{"0,ff,00000001", "00,ff,00000001", "100000000,ff,00000001", "100000003,ff,00000001", "999999999,ff,00000001", "2147483648,ff,00000001", "4294967299,ff,00000001", "9223372036854775807,ff,00000001", "18446744073709551615,ff,00000001", "18446744073709551617,ff,00000001", "18446744073709551619,ff,00000001", "36893488147419103235,ff,00000001", "f,ff,00000001", "1f,ff,00000001"}},
		{"too many digits in Key", []string{"3,10000000000000000,00000001", "3,10000000000000001,00000001", "3,fffffffffffffffff,00000001", "3,100000000000000ff,00000001", "3,1000000000000000000000000000000ff,00000001"}},
		{"another number of digits in Cookie", []string{"3,ff,0", "3,ff,01", "3,ff,0000001", "3,ff,000000001", "3,ff,fffffff", "3,ff,fffffffff", "3,ff,100000000", "3,ff,100000001", "3,ff,0000000000000001", "3,ff,10000000000000001"}},
		{"large letters", []string{"3,FF,00000001", "3,fF,00000001", "3,Ff,00000001", "3,ff,0000000A", "3,ff,FFFFFFFF", "3,ff,fffffffF", "A,ff,00000001"}},
		{"letters that are no digits", []string{"3,fg,00000001", "3,g,00000001", "3,gf,00000001", "3,ff,0000000g", "a,ff,00000001", "3a,ff,00000001", "3,ff,zzzzzzzz", "3,0xff,00000001", "0x3,ff,00000001", "3,xff,00000001", "3,ffh,00000001", "3,ff,0x000001", "3,ff,0x00000001"}},
		{"signs", []string{"+3,ff,00000001", "-3,ff,00000001", "3,+ff,00000001", "3,-ff,00000001", "3,ff,+0000001", "3,ff,-0000001", "3,ff,+00000001", "3,ff,-00000001", "-1,1,00000000", "3,ff,-1"}},
		{"blanks", []string{" 3,ff,00000001", "3 ,ff,00000001", "3, ff,00000001", "3,ff ,00000001", "3,ff, 00000001", "3,ff,00000001 ", "3,ff,       1", "3,ff,1       ", "\t3,ff,00000001", "3,ff,00000001\n", "3,ff,00000001\r\n", "3 0,ff,00000001", "3,f f,00000001"}},
		{"underscores", []string{"1_0,ff,00000001", "3,f_f,00000001", "3,ff,0000_0001", "3,ff,000_0001", "3_,ff,00000001", "3,_ff,00000001", "_,_,________"}},
		{"other commas", []string{"3ff00000001", "3,ff00000001", "3ff,00000001", "3,,ff,00000001", "3,ff,,00000001", ",3,ff,00000001", "3,ff,00000001,", "3,,ff,,00000001", ",3,ff,00000001,", "3,f,f,00000001", "3,ff,0000,0001", "3,ff,00000001,3,ff,00000001", "3;ff;00000001", "3.ff.00000001", "3,ff.00000001", "3-ff-00000001", "3:ff,00000001", "3\x00ff\x0000000001"}},
		{"bytes above 127", []string{"\x80", "\xff\xff\xff", "3\x80,ff,00000001", "3,\xffff,00000001", "3,ff,0000000\xb1", "3,ff,00000001\xff", "\xef\xbb\xbf3,ff,00000001", "\u0663,ff,00000001", "3\uff0cff,00000001", "\uff13,\uff46\uff46,\uff10\uff10\uff10\uff10\uff10\uff10\uff10\uff11", "\xb3\xac\xe6\xe6\xac\xb0\xb0\xb0\xb0\xb0\xb0\xb0\xb1"}},
		{"bytes 0", []string{"\x003,ff,00000001", "3\x00,ff,00000001", "3,ff\x00,00000001", "3,ff,00000001\x00", "3,ff,0000000\x00"}},
	} {
		t.Run(x.why, func(t *testing.T) {
			for _, s := range x.texts {
				isRefused(t, s)
			}
		})
	}
}

// TestP15_2Byte is texts that Text makes with each one byte turned into each other one: each is another file id's text, or none.
func TestP15_2Byte(t *testing.T) {
	for _, f := range fids() {
		b := []byte(laid(f))
		for at, was := range b {
			for c := range 256 {
				b[at] = byte(c)
				taken := agrees(t, string(b))
				if other, _ := fid.Parse(string(b)); taken && (other == f) != (byte(c) == was) {
					t.Fatalf("%q is taken as %v", b, other)
				}
			}
			b[at] = was
		}
	}
}

// TestP15_2More is texts that Text makes with each byte more at each place.
func TestP15_2More(t *testing.T) {
	for _, f := range fids() {
		s := laid(f)
		for at := range len(s) + 1 {
			for c := range 256 {
				agrees(t, s[:at]+string([]byte{byte(c)})+s[at:])
			}
		}
	}
}

// TestP15_2Less is texts that Text makes with a byte less at each place, each beginning and end of them, and each piece that is cut out.
func TestP15_2Less(t *testing.T) {
	for _, f := range fids() {
		s := laid(f)
		for at := range len(s) {
			agrees(t, s[:at]+s[at+1:])
			isRefused(t, s[:at])
			for end := at; end <= len(s); end++ {
				agrees(t, s[:at]+s[end:])
				agrees(t, s[at:end])
			}
		}
	}
}

// TestP15_2Swapped is texts that Text makes with two bytes exchanged, and with their numbers in another order.
func TestP15_2Swapped(t *testing.T) {
	for _, f := range fids() {
		b := []byte(laid(f))
		for i := range b {
			for k := range i {
				b[i], b[k] = b[k], b[i]
				agrees(t, string(b))
				b[i], b[k] = b[k], b[i]
			}
		}
		l := strings.Split(laid(f), ",")
		for i := range 27 {
			agrees(t, l[i/9]+","+l[i/3%3]+","+l[i%3])
		}
	}
}

// TestP15_2Noughts is noughts ahead of each number, one and many.
func TestP15_2Noughts(t *testing.T) {
	for _, f := range fids() {
		l := strings.Split(laid(f), ",")
		for n := 1; n <= 40; n++ {
			noughts := strings.Repeat("0", n)
			isRefused(t, noughts+l[0]+","+l[1]+","+l[2])
			isRefused(t, l[0]+","+noughts+l[1]+","+l[2])
			isRefused(t, l[0]+","+l[1]+","+noughts+l[2])
		}
	}
}

// TestP15_2Wraps is numbers that are greater by as much as whole digits of an int have, so that a sum that wraps round would be the number itself.
func TestP15_2Wraps(t *testing.T) {
	for _, s := range []string{
		"4294967299,ff,00000001", "18446744073709551619,ff,00000001", "340282366920938463463374607431768211459,ff,00000001",
		"3,100000000000000ff,00000001", "3,1000000000000000000000000000000ff,00000001",
		"3,ff,100000001", "3,ff,ffffffff00000001", "3,ff,10000000000000001",
	} {
		isRefused(t, s)
	}
	for n := 1; n < 100; n++ {
		high := "1" + strings.Repeat("0", n)
		agrees(t, high+"3,ff,00000001")
		agrees(t, "3,"+high+"ff,00000001")
		agrees(t, "3,ff,"+high+"00000001")
	}
}

// TestP15_2Long is very long texts, of one byte each, of commas and of digits, and such as begin or end with a file id's text.
func TestP15_2Long(t *testing.T) {
	for _, length := range []int{35, 100, 1 << 16, 1 << 24} {
		for _, c := range []string{"0", "1", "9", "a", "f", "F", ",", " ", "\x00", "\xff"} {
			long := strings.Repeat(c, length)
			for _, s := range []string{long, long + ",ff,00000001", "3," + long + ",00000001", "3,ff," + long, "3,ff,00000001" + long, long + "3,ff,00000001"} {
				isRefused(t, s)
			}
		}
		isRefused(t, strings.Repeat("3,ff,00000001,", length/14))
	}
}

// TestP15_2Drawn is drawn texts of bytes that a file id's text may have, and of any: what Parse takes Text makes again.
func TestP15_2Drawn(t *testing.T) {
	d := draws(2)
	run := func(from string, most int) string {
		b := make([]byte, d.below(most+1))
		for i := range b {
			b[i] = from[d.below(len(from))]
		}
		return string(b)
	}
	const hex = "0123456789abcdef"
	taken := 0
	for range 200000 {
		s := run(hex[:10], 9) + "," + run(hex, 18) + "," + (run(hex, 9) + "000000000")[:8+d.below(2)*d.below(2)]
		if agrees(t, s) {
			taken++
		}
		agrees(t, run(hex+",,,,", 36))
		agrees(t, run("1,0", 16))
	}
	if taken < 10000 {
		t.Errorf("of the drawn texts only %d were taken", taken)
	}
	for range 200000 {
		b := []byte(laid(d.fid()))
		for range d.below(3) {
			b[d.below(len(b))] = byte(d.next())
		}
		agrees(t, string(b))
	}
}

// TestP15_4 is the way there and back of each file id of the lists, and of drawn ones.
func TestP15_4(t *testing.T) {
	d := draws(3)
	l := fids()
	for range 100000 {
		l = append(l, d.fid())
	}
	for v := 1; v <= 1100; v++ {
		l = append(l, api.Fid{Volume: v, Key: uint64(v) << (v % 50), Cookie: uint32(v) << (v % 32)})
	}
	for _, f := range l {
		s, e := fid.Text(f)
		if e != api.OK {
			t.Fatalf("%v: error %d", f, e)
		}
		isParsed(t, s, f)
	}
}

// TestP15_4Apart is texts of file ids that are not the same: they are not the same either.
func TestP15_4Apart(t *testing.T) {
	d := draws(4)
	seen := map[string]api.Fid{}
	for _, f := range fids() {
		for range 50 {
			s, _ := fid.Text(f)
			if other, ok := seen[s]; ok && other != f {
				t.Fatalf("%q is the text of %v and of %v", s, f, other)
			}
			seen[s] = f
			f = api.Fid{Volume: d.below(20) + 1, Key: uint64(d.below(20) + 1), Cookie: uint32(d.below(20))}
		}
	}
}
