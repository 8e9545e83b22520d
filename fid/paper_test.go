package fid_test

import (
	"fmt"
	"math"
	"math/big"
	"regexp"
	"strconv"
	"strings"
	"testing"

	"garner/api"
	"garner/fid"
)

// draws are numbers that look drawn and are the same each time; another start gives others.
type draws uint64

func (d *draws) next() uint64 {
	*d = *d*6364136223846793005 + 1442695040888963407
	x := uint64(*d)
	x ^= x >> 33
	x *= 0xff51afd7ed558ccd
	return x ^ x>>33
}

// below is a draw from 0 up to n, without n.
func (d *draws) below(n int) int { return int(d.next() % uint64(n)) }

// fid is a drawn file id that there is; each number of digits comes about as often as another.
func (d *draws) fid() api.Fid {
	most := 1
	for range d.below(8) + 1 {
		most *= 10
	}
	return api.Fid{
		Volume: d.below(most-1) + 1,
		Key:    max(d.next()>>d.below(64), 1),
		Cookie: uint32(d.next()) >> d.below(33),
	}
}

// volumes are such as a file id may have: each number of digits, with noughts and without.
func volumes() []int {
	l := []int{2, 7, 255, 4711, 65536, 1 << 24, 10203040, 12345678, 98765432, 99999998}
	for n := 1; n < 100000000; n *= 10 {
		l = append(l, n, 10*n-1)
	}
	return l
}

// wrongVolumes are such as no file id has.
func wrongVolumes() []int {
	return []int{0, -1, -2, -7, -99999999, -100000000, math.MinInt, math.MinInt + 1, -1 << 31, -1 << 32, -1<<32 + 7, 100000000, 100000001, 123456789, 1<<31 - 1, 1 << 31, 1 << 32, 1<<32 + 7, 1<<62 + 5, math.MaxInt - 1, math.MaxInt}
}

// keys are such as a file id may have: each number of hexadecimal digits, the least and the greatest of them, each digit.
func keys() []uint64 {
	l := []uint64{2, 9, 10, 11, 12, 13, 14, 17, 1<<31 - 1, 1<<63 - 1, 1 << 63, math.MaxUint64 - 1, 0x0123456789abcdef, 0xfedcba9876543210, 0xabcdefabcdefabcd}
	for n := range 16 {
		l = append(l, 1<<(4*n), 1<<(4*n+3), math.MaxUint64>>(60-4*n))
	}
	return l
}

// cookies are such as a file id may have.
func cookies() []uint32 {
	return []uint32{0, 1, 9, 10, 15, 16, 255, 256, 1<<16 + 1, 0x00abcdef, 0x01234567, 0x89abcdef, 0x10000000, 1<<31 - 1, 1 << 31, math.MaxUint32 - 1, math.MaxUint32}
}

// fids are file ids that there are: each volume, key and cookie of the lists.
func fids() []api.Fid {
	var l []api.Fid
	for i, v := range volumes() {
		l = append(l, api.Fid{Volume: v, Key: keys()[i%len(keys())], Cookie: cookies()[i%len(cookies())]})
	}
	for i, k := range keys() {
		l = append(l, api.Fid{Volume: volumes()[i*3%len(volumes())], Key: k, Cookie: cookies()[i%len(cookies())]})
	}
	for i, c := range cookies() {
		l = append(l, api.Fid{Volume: volumes()[i%len(volumes())], Key: keys()[i*7%len(keys())], Cookie: c})
	}
	return append(l, api.Fid{Volume: 1, Key: 1}, api.Fid{Volume: 99999999, Key: math.MaxUint64, Cookie: math.MaxUint32})
}

// laid is a file id as text, as the chapter's words have it.
func laid(f api.Fid) string {
	return fmt.Sprintf("%d,%x,%08x", f.Volume, f.Key, f.Cookie)
}

// form is what the texts are that Text makes.
var form = regexp.MustCompile(`\A([1-9][0-9]{0,7}),([1-9a-f][0-9a-f]{0,15}),([0-9a-f]{8})\z`)

// onPaper is what Parse is to answer, as the chapter's words have it.
func onPaper(s string) (api.Fid, api.Errno) {
	l := form.FindStringSubmatch(s)
	if l == nil {
		return api.Fid{}, api.ErrForm
	}
	volume, _ := strconv.Atoi(l[1])
	key, _ := strconv.ParseUint(l[2], 16, 64)
	cookie, _ := strconv.ParseUint(l[3], 16, 32)
	return api.Fid{Volume: volume, Key: key, Cookie: uint32(cookie)}, api.OK
}

// isText asks Text for a text.
func isText(t *testing.T, f api.Fid, want string) {
	t.Helper()
	s, e := fid.Text(f)
	if e != api.OK || len(s) != len(want) {
		t.Fatalf("%v: %q, error %d, not %q", f, s, e, want)
	}
	for i := range len(s) {
		if s[i] != want[i] {
			t.Errorf("%v: the byte %d of %q is %q, not %q", f, i, s, s[i], want[i])
		}
	}
}

// isNoText asks Text for ErrArg and nothing beside it.
func isNoText(t *testing.T, f api.Fid) {
	t.Helper()
	if s, e := fid.Text(f); e != api.ErrArg || s != "" {
		t.Errorf("%v: %q, error %d, not %d", f, s, e, api.ErrArg)
	}
}

// shown is a text in words, of a long one its beginning.
func shown(s string) string {
	return fmt.Sprintf("%d bytes %.60q", len(s), s)
}

// isParsed asks Parse for a file id.
func isParsed(t *testing.T, s string, want api.Fid) {
	t.Helper()
	if f, e := fid.Parse(s); e != api.OK || f != want {
		t.Errorf("%s: %v, error %d, not %v", shown(s), f, e, want)
	}
}

// isRefused asks Parse for ErrForm and nothing beside it.
func isRefused(t *testing.T, s string) {
	t.Helper()
	if f, e := fid.Parse(s); e != api.ErrForm || f != (api.Fid{}) {
		t.Errorf("%s: %v, error %d, not %d", shown(s), f, e, api.ErrForm)
	}
}

// agrees asks Parse for what paper says, and, where the text is taken, Text for just that text; it tells whether it was taken.
func agrees(t *testing.T, s string) bool {
	t.Helper()
	f, e := fid.Parse(s)
	if want, wantE := onPaper(s); e != wantE || f != want {
		t.Fatalf("%s: %v, error %d, not %v, %d", shown(s), f, e, want, wantE)
	}
	if e != api.OK {
		return false
	}
	if text, e := fid.Text(f); e != api.OK || text != s {
		t.Fatalf("%s is taken as %v, of which Text makes %q, error %d", shown(s), f, text, e)
	}
	return true
}

// lowest are the lowest 32 digits of a number, also of one below 0.
func lowest(n *big.Int) *big.Int {
	return new(big.Int).Mod(n, big.NewInt(1<<32))
}

// turned is a number of 32 digits with the upper five of them behind the others, digit by digit.
func turned(n *big.Int) *big.Int {
	s := fmt.Sprintf("%032b", n)
	x, _ := new(big.Int).SetString(s[5:]+s[:5], 2)
	return x
}

// onPaperCookie is what Cookie begins with, and what it has behind each of the four times, in whole numbers; the last one is the cookie.
func onPaperCookie(volume int, key uint64, salt uint32) [5]uint32 {
	x := new(big.Int).Xor(big.NewInt(int64(salt)), lowest(big.NewInt(int64(volume))))
	k := new(big.Int).SetUint64(key)
	l := [5]uint32{uint32(x.Uint64())}
	for i := range 4 {
		x.Xor(turned(x), lowest(k))
		x = lowest(x.Mul(x, big.NewInt(2654435769)))
		k.Quo(k, big.NewInt(65536))
		l[i+1] = uint32(x.Uint64())
	}
	return l
}

// isCookie asks for a cookie.
func isCookie(t *testing.T, volume int, key uint64, salt, want uint32) {
	t.Helper()
	if x := fid.Cookie(volume, key, salt); x != want {
		t.Errorf("Cookie(%d, %#x, %#x) is %08x, not %08x", volume, key, salt, x, want)
	}
}

// TestPaper is the papers themselves at what is plain without them.
func TestPaper(t *testing.T) {
	for _, s := range []string{"1,1,00000000", "99999999,ffffffffffffffff,ffffffff"} {
		if f, e := onPaper(s); e != api.OK || laid(f) != s {
			t.Errorf("%q: %v, error %d", s, f, e)
		}
	}
	for _, s := range []string{"", ",,", "0,1,00000000", "1,1,00000000\n", "\n1,1,00000000", strings.ToUpper("1,a,00000000")} {
		if f, e := onPaper(s); e != api.ErrForm {
			t.Errorf("%q: %v, error %d", s, f, e)
		}
	}
	if x := turned(big.NewInt(0xf8000001)); x.Int64() != 0x3f {
		t.Errorf("%x", x)
	}
	if x := lowest(big.NewInt(-1)); x.Int64() != math.MaxUint32 {
		t.Errorf("%x", x)
	}
}
