package raft

import (
	"math"
	"slices"

	"garner/api"
	"garner/bits"
	"garner/disk"
	"garner/keep"
	"garner/wal"
)

// maxLaid is how many bytes an entry has at most in chapter 10's log.
const maxLaid = api.MaxFrame - 10

// load is the term and the vote that a disk of one of n nodes has.
func load(d *disk.Disk, n int) (term, vote int, e api.Errno) {
	p, e := keep.Load(d, termFile)
	if e == api.ErrNone {
		return 0, nobody, api.OK
	}
	if e != api.OK {
		return 0, 0, e
	}
	r := reader{rest: p}
	term = r.number(math.MaxInt)
	vote = r.number(n) - 1
	if e := r.end(); e != api.OK {
		return 0, 0, e
	}
	return term, vote, api.OK
}

// logOf is the log that a disk has, if it is a node's. All of it lasts then.
func logOf(d *disk.Disk) (*wal.Log, api.Errno) {
	log, e := wal.Open(d, logPrefix)
	if e != api.OK {
		return nil, e
	}
	first, next := log.Bounds()
	if first != 1 {
		return nil, api.ErrForm
	}
	for i := first; i < next; i++ {
		p, _ := log.Get(i)
		r := reader{rest: p}
		r.laid()
		if r.err != api.OK {
			return nil, r.err
		}
	}
	return log, log.Sync()
}

// entriesOf is the entries that a message has; only one Kind may have any.
func entriesOf(m api.Msg) ([]api.Entry, api.Errno) {
	r := reader{rest: m.Data}
	var l []api.Entry
	for m.Kind == entries && len(l) < maxAtOnce && r.goesOn() {
		l = append(l, r.sent())
	}
	return l, r.end()
}

// numbers is numbers as bytes.
func numbers(l ...int) []byte {
	var b []byte
	for _, v := range l {
		b = append(b, bits.Uvarint(uint64(v))...)
	}
	return b
}

// laid is an entry as the log has it.
func laid(e api.Entry) []byte {
	return slices.Concat(numbers(e.Term), e.Data)
}

// sent is an entry as messages have it.
func sent(e api.Entry) []byte {
	return slices.Concat(numbers(e.Term, len(e.Data)), e.Data)
}

// reader is what is left of bytes, and the first error that was met: it stays, and what is read behind it is nothing.
type reader struct {
	rest []byte
	err  api.Errno
}

// goesOn tells whether there is more to read.
func (r *reader) goesOn() bool {
	return r.err == api.OK && len(r.rest) > 0
}

// end is the first error, that something is left among them.
func (r *reader) end() api.Errno {
	if r.goesOn() {
		r.err = api.ErrForm
	}
	return r.err
}

// number is the next number, if it is not above a greatest one.
func (r *reader) number(greatest int) int {
	if r.err != api.OK {
		return 0
	}
	v, n, e := bits.ReadUvarint(r.rest)
	// Ahead of the conversion: the greatest numbers would be below 0.
	if e != api.OK || v > uint64(greatest) {
		r.err = api.ErrForm
		return 0
	}
	r.rest = r.rest[n:]
	return int(v)
}

// bytes is the next n bytes.
func (r *reader) bytes(n int) []byte {
	if r.err == api.OK && n > len(r.rest) {
		r.err = api.ErrForm
	}
	if r.err != api.OK {
		return nil
	}
	b := r.rest[:n]
	r.rest = r.rest[n:]
	return b
}

// laid is an entry as the log has it: all that is left.
func (r *reader) laid() api.Entry {
	term := r.number(math.MaxInt)
	return api.Entry{Term: term, Data: r.bytes(len(r.rest))}
}

// sent is the next entry as messages have it. One that the log could not hold is none.
func (r *reader) sent() api.Entry {
	term := r.number(maxNumber)
	n := r.number(maxLaid - len(numbers(term)))
	return api.Entry{Term: term, Data: r.bytes(n)}
}
