package strip

import (
	"bytes"

	"garner/api"
	"garner/bits"
	"garner/frame"
)

const (
	maxPlaces  = 1 << 16 // in an index
	cookieSize = 4
	alive      = 0 // the flag of a place
	dead       = 1 // the flag of one that is Dead
)

// Index is places as bytes.
func Index(l []api.Place) ([]byte, api.Errno) {
	if !isIndex(l) {
		return nil, api.ErrArg
	}
	if len(l) > maxPlaces {
		return nil, api.ErrLong
	}
	b := bits.Uvarint(uint64(len(l)))
	for _, p := range l {
		b = appendPlace(b, p)
	}
	// ErrLong too, where great numbers take more bytes than a record has.
	return frame.Encode(b)
}

// ReadIndex is the way back.
func ReadIndex(b []byte) ([]api.Place, api.Errno) {
	p, _, e := frame.Decode(b)
	if e != api.OK {
		return nil, e
	}
	r := reader{p}
	l := r.places()
	// One row of bytes for each list: what was read otherwise than Index writes it, or not at all, comes out as another one.
	again, e := Index(l)
	if e != api.OK || !bytes.Equal(again, b) {
		return nil, api.ErrForm
	}
	return l, api.OK
}

// Find is the place of a key.
func Find(l []api.Place, key uint64) (api.Place, bool) {
	// The first place whose Key is not below key is one of those from low up to high.
	low, high := 0, len(l)
	for low < high {
		middle := low + (high-low)/2
		if l[middle].Key < key {
			low = middle + 1
		} else {
			high = middle
		}
	}
	if low == len(l) || l[low].Key != key {
		return api.Place{}, false
	}
	return l[low], true
}

// isIndex asks whether places may be those of an index, but for how many they are.
func isIndex(l []api.Place) bool {
	for i, p := range l {
		if i > 0 && p.Key <= l[i-1].Key || !isBound(p.At) || !isBound(p.N) {
			return false
		}
	}
	return true
}

// isBound asks whether an At or an N may be so.
func isBound(n int) bool { return 0 <= n && n <= api.MaxVolume }

// appendPlace lays a place behind bytes.
func appendPlace(b []byte, p api.Place) []byte {
	for _, v := range [...]uint64{p.Key, uint64(p.At), uint64(p.N)} {
		b = append(b, bits.Uvarint(v)...)
	}
	b = append(b, bits.Put32(p.Cookie)...)
	if p.Dead {
		return append(b, dead)
	}
	return append(b, alive)
}

// reader is what is left of bytes.
type reader struct{ rest []byte }

// places are as many as the first number tells, or as there are bytes for.
func (r *reader) places() []api.Place {
	var l []api.Place
	for n := r.number(); uint64(len(l)) < n && len(r.rest) > 0; {
		l = append(l, r.place())
	}
	return l
}

// place is the next place.
func (r *reader) place() api.Place {
	p := api.Place{Key: r.number(), At: int(r.number()), N: int(r.number())}
	p.Cookie, _ = bits.Get32(r.take(cookieSize))
	flag := r.take(1)
	p.Dead = len(flag) > 0 && flag[0] == dead
	return p
}

// number is the next number; where there is none, it is 0 and nothing is left.
func (r *reader) number() uint64 {
	v, n, e := bits.ReadUvarint(r.rest)
	if e != api.OK {
		n = len(r.rest)
	}
	r.take(n)
	return v
}

// take is the next n bytes, or as many as are left.
func (r *reader) take(n int) []byte {
	n = min(n, len(r.rest))
	p := r.rest[:n]
	r.rest = r.rest[n:]
	return p
}
