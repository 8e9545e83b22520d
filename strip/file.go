package strip

import (
	"bytes"
	"slices"

	"garner/api"
	"garner/bits"
)

const (
	mark      = 0x67730100 // what a shard's file begins with
	idAt      = 4          // the place of the volume's id in the head
	shardAt   = 8          // the place of the shard's number
	sizeAt    = 12         // the place of how many bytes the whole has
	sumSize   = 4          // bytes of the sum behind the head, and behind each row
	headSize  = 16 + sumSize
	rowSize   = api.Block + sumSize
	maxNumber = 1<<31 - 1 // of an id, and of a shard's number
)

// File is a shard as a file.
func File(id, i, size int, rows []byte) ([]byte, api.Errno) {
	if !isHead(id, i, size) || len(rows) == 0 || len(rows)%api.Block != 0 {
		return nil, api.ErrArg
	}
	b := appendSummed(nil, headOf(id, i, size))
	for row := range slices.Chunk(rows, api.Block) {
		b = appendSummed(b, row)
	}
	return b, api.OK
}

// Read is a file as a shard: which one of which volume, how many bytes the whole has, its rows; those that are damaged are empty.
func Read(b []byte) (id, i, size int, rows [][]byte, e api.Errno) {
	if len(b) < headSize {
		return 0, 0, 0, nil, api.ErrShort
	}
	behind := b[headSize:]
	if number(b) != mark || len(behind) == 0 || len(behind)%rowSize != 0 {
		return 0, 0, 0, nil, api.ErrForm
	}
	h, ok := summed(b[:headSize])
	if !ok {
		return 0, 0, 0, nil, api.ErrSum
	}
	id, i, size = number(h[idAt:]), number(h[shardAt:]), number(h[sizeAt:])
	if !isHead(id, i, size) {
		return 0, 0, 0, nil, api.ErrArg
	}
	for row := range slices.Chunk(behind, rowSize) {
		p, _ := summed(row)
		rows = append(rows, bytes.Clone(p))
	}
	return id, i, size, rows, api.OK
}

// isNumber asks whether an id, or a shard's number, may be so.
func isNumber(n int) bool { return 0 <= n && n <= maxNumber }

// isHead asks whether a file may tell this of its shard.
func isHead(id, i, size int) bool { return isNumber(id) && isNumber(i) && isSize(size) }

// headOf is what a file begins with, without the sum.
func headOf(id, i, size int) []byte {
	var b []byte
	for _, v := range [...]int{mark, id, i, size} {
		b = append(b, bits.Put32(uint32(v))...)
	}
	return b
}

// number is the one at the beginning of bytes. Where an int is narrow, one whose highest digit is 1 is below 0: no head has it either way.
func number(b []byte) int {
	v, _ := bits.Get32(b)
	return int(v)
}

// appendSummed lays bytes and their sum behind others.
func appendSummed(b, p []byte) []byte {
	return append(append(b, p...), bits.Put32(bits.Sum(p))...)
}

// summed are the bytes ahead of a sum, if that is right.
func summed(b []byte) ([]byte, bool) {
	p := b[:len(b)-sumSize]
	sum, _ := bits.Get32(b[len(p):])
	if sum != bits.Sum(p) {
		return nil, false
	}
	return p, true
}
