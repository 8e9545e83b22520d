package raft_test

import (
	"bytes"
	"encoding/binary"
	"fmt"
	"hash/crc32"
	"maps"
	"slices"
	"testing"

	"garner/api"
	"garner/disk"
	"garner/raft"
)

// Roles and Kinds, as the chapter numbers them.
const (
	follows, stands, leads = 0, 1, 2

	asks, votes, entries, took = 1, 2, 3, 4
)

// drawn are numbers that look drawn and are the same each time.
type drawn uint64

// below is a number from 0 to n - 1.
func (x *drawn) below(n int) int {
	*x = *x*6364136223846793005 + 1442695040888963407
	return int(uint64(*x) >> 33 % uint64(n))
}

// row is n bytes that look drawn and are the same each time; another start gives another row.
func row(n int, start int) []byte {
	x := drawn(start)
	b := make([]byte, n)
	for i := range b {
		b[i] = byte(x.below(256))
	}
	return b
}

// uv is numbers in groups of seven digits.
func uv(l ...int) []byte {
	var b []byte
	for _, v := range l {
		b = binary.AppendUvarint(b, uint64(v))
	}
	return b
}

// framed is a record of chapter 2.
func framed(p ...[]byte) []byte {
	whole := slices.Concat(p...)
	b := binary.BigEndian.AppendUint32(nil, uint32(len(whole)))
	sum := crc32.ChecksumIEEE(slices.Concat(b, whole))
	return slices.Concat(binary.BigEndian.AppendUint32(b, sum), whole)
}

// en is an entry.
func en(term int, data string) api.Entry { return api.Entry{Term: term, Data: []byte(data)} }

// terms are entries without Data.
func terms(l ...int) []api.Entry {
	var made []api.Entry
	for _, term := range l {
		made = append(made, api.Entry{Term: term})
	}
	return made
}

// packed is entries as a message has them.
func packed(l ...api.Entry) []byte {
	var b []byte
	for _, e := range l {
		b = slices.Concat(b, uv(e.Term, len(e.Data)), e.Data)
	}
	return b
}

// msg is a message.
func msg(from, to, kind int, data []byte, nums ...int) api.Msg {
	return api.Msg{From: from, To: to, Kind: kind, Nums: nums, Data: data}
}

// logged is the files of a log: a next segment is begun where the one ahead of it has 1024 bytes or more.
func logged(l []api.Entry) map[string][]byte {
	files := map[string][]byte{}
	name := ""
	for i, e := range l {
		if name == "" || len(files[name]) >= 1024 {
			name = fmt.Sprintf("log.%08d", i+1)
		}
		files[name] = append(files[name], framed(uv(i+1, e.Term), e.Data)...)
	}
	return files
}

// paper is a node as the chapter's words have it, with the files that its disk has to have.
type paper struct {
	id, n, room  int
	others       map[string][]byte // files that are none of its own
	file         []byte            // what `term` has; nil, if there is none
	log          []api.Entry       // from the number 1 on
	stopped      bool
	term, vote   int
	role, leader int
	committed    int
	taken        int
	wait         int
	voters       map[int]bool
	next, match  map[int]int
}

// full is a disk that is full where something is to be written.
type full struct{}

// opened is what Open makes of what the paper has of the disk.
func (p *paper) opened(draw int) {
	p.stopped, p.role, p.leader, p.committed, p.taken = false, follows, -1, 0, 0
	p.anew(draw)
}

// anew is to wait anew.
func (p *paper) anew(draw int) {
	if draw < 0 {
		draw = 0
	}
	p.wait = 10 + draw%10
}

// files are all that the disk has.
func (p *paper) files() map[string][]byte {
	l := logged(p.log)
	maps.Copy(l, p.others)
	if p.file != nil {
		l["term"] = p.file
	}
	return l
}

// fits asks for room for n bytes more, in one more file or in one that is there.
func (p *paper) fits(n, more int) {
	used := 0
	l := p.files()
	for _, b := range l {
		used += len(b)
	}
	if used+n > p.room || len(l)+more > api.MaxFiles {
		panic(full{})
	}
}

// save writes term and vote.
func (p *paper) save(term, vote int) {
	b := framed(uv(term, vote+1))
	p.fits(len(b), 1)
	p.file, p.term, p.vote = b, term, vote
}

// lay writes an entry.
func (p *paper) lay(e api.Entry) {
	l := slices.Concat(p.log, []api.Entry{e})
	p.fits(len(framed(uv(len(l), e.Term), e.Data)), len(logged(l))-len(logged(p.log)))
	p.log = l
}

// termAt is the term of an entry; -1, if there is none.
func (p *paper) termAt(i int) int {
	switch {
	case i == 0:
		return 0
	case i > len(p.log):
		return -1
	}
	return p.log[i-1].Term
}

// call is what a call answers, in which the disk may turn out to be full.
func (p *paper) call(f func() []api.Msg) (l []api.Msg) {
	if p.stopped {
		return nil
	}
	defer func() {
		switch x := recover().(type) {
		case nil:
		case full:
			l, p.stopped = nil, true
		default:
			panic(x)
		}
	}()
	return f()
}

// each is a message to each other node.
func (p *paper) each(make func(to int) api.Msg) []api.Msg {
	var l []api.Msg
	for to := 0; to < p.n; to++ {
		if to != p.id {
			l = append(l, make(to))
		}
	}
	return l
}

// sends is to send entries.
func (p *paper) sends(to int) api.Msg {
	from := p.next[to]
	end := from + 8
	if end > len(p.log)+1 {
		end = len(p.log) + 1
	}
	return msg(p.id, to, entries, packed(p.log[from-1:end-1]...), p.term, from-1, p.termAt(from-1), p.committed)
}

// leading is what one does that becomes leader.
func (p *paper) leading() []api.Msg {
	p.role = leads
	p.next, p.match = map[int]int{}, map[int]int{}
	for i := range p.n {
		p.next[i] = len(p.log) + 1
	}
	p.lay(api.Entry{Term: p.term})
	p.leader, p.wait = p.id, 3
	p.commit()
	return p.each(p.sends)
}

// commit is committed as most have it; whether it grew.
func (p *paper) commit() bool {
	was := p.committed
	for i := was + 1; i <= len(p.log); i++ {
		have := 1
		for to := range p.n {
			if to != p.id && p.match[to] >= i {
				have++
			}
		}
		if have > p.n-have && p.termAt(i) == p.term {
			p.committed = i
		}
	}
	return p.committed > was
}

// tick is a Tick.
func (p *paper) tick(draw int) []api.Msg {
	p.wait--
	if p.wait != 0 {
		return nil
	}
	if p.role == leads {
		p.wait = 3
		return p.each(p.sends)
	}
	p.save(p.term+1, p.id)
	p.role, p.leader, p.voters = stands, -1, map[int]bool{p.id: true}
	p.anew(draw)
	if p.n == 1 {
		return p.leading()
	}
	return p.each(func(to int) api.Msg {
		return msg(p.id, to, asks, nil, p.term, len(p.log), p.termAt(len(p.log)))
	})
}

// unpacked is the entries of a message's Data, and whether it is such.
func unpacked(b []byte) ([]api.Entry, bool) {
	var l []api.Entry
	for len(b) > 0 {
		var v [2]int
		for i := range v {
			x, n := binary.Uvarint(b)
			if n <= 0 || n > 1 && b[n-1] == 0 || x > 1<<40 {
				return nil, false
			}
			v[i], b = int(x), b[n:]
		}
		if len(l) == 8 || v[1] > len(b) {
			return nil, false
		}
		l = append(l, api.Entry{Term: v[0], Data: b[:v[1]]})
		b = b[v[1]:]
	}
	return l, true
}

// right tells whether a message is one that is heard.
func (p *paper) right(m api.Msg) bool {
	count := map[int]int{asks: 3, votes: 2, entries: 4, took: 3}[m.Kind]
	if m.To != p.id || m.From == p.id || m.From < 0 || m.From > p.n-1 || count == 0 || len(m.Nums) != count {
		return false
	}
	for i, v := range m.Nums {
		if v < 0 || v > 1<<40 || i == 1 && (m.Kind == votes || m.Kind == took) && v > 1 {
			return false
		}
	}
	_, ok := unpacked(m.Data)
	return ok && (m.Kind == entries || len(m.Data) == 0)
}

// hear is a Hear.
func (p *paper) hear(m api.Msg, draw int) []api.Msg {
	if !p.right(m) {
		return nil
	}
	if m.Nums[0] > p.term {
		p.save(m.Nums[0], -1)
		p.role, p.leader = follows, -1
	}
	return map[int]func(api.Msg, int) []api.Msg{asks: p.hearAsks, votes: p.hearVotes, entries: p.hearEntries, took: p.hearTook}[m.Kind](m, draw)
}

// hearAsks is 1 of P16.3.
func (p *paper) hearAsks(m api.Msg, draw int) []api.Msg {
	own := p.termAt(len(p.log))
	free := p.vote == -1 || p.vote == m.From
	if m.Nums[0] == p.term && free && (m.Nums[2] > own || m.Nums[2] == own && m.Nums[1] >= len(p.log)) {
		if p.vote == -1 {
			p.save(p.term, m.From)
		}
		p.anew(draw)
		return []api.Msg{msg(p.id, m.From, votes, nil, p.term, 1)}
	}
	return []api.Msg{msg(p.id, m.From, votes, nil, p.term, 0)}
}

// hearVotes is 2 of P16.3.
func (p *paper) hearVotes(m api.Msg, _ int) []api.Msg {
	if p.role != stands || m.Nums[0] != p.term || m.Nums[1] != 1 {
		return nil
	}
	p.voters[m.From] = true
	if 2*len(p.voters) < p.n {
		return nil
	}
	return p.leading()
}

// hearEntries is 3 of P16.3.
func (p *paper) hearEntries(m api.Msg, draw int) []api.Msg {
	if m.Nums[0] < p.term {
		return []api.Msg{msg(p.id, m.From, took, nil, p.term, 0, 0)}
	}
	p.role, p.leader = follows, m.From
	p.anew(draw)
	at := m.Nums[1]
	if p.termAt(at) != m.Nums[2] {
		return []api.Msg{msg(p.id, m.From, took, nil, p.term, 0, max(0, min(len(p.log), at-1)))}
	}
	l, _ := unpacked(m.Data)
	for i, e := range l {
		at++
		if p.termAt(at) == e.Term {
			continue
		}
		if at <= p.committed {
			return nil
		}
		p.log = slices.Clip(p.log[:at-1])
		for _, e := range l[i:] {
			p.lay(api.Entry{Term: e.Term, Data: bytes.Clone(e.Data)})
		}
		break
	}
	end := m.Nums[1] + len(l)
	if lesser := min(m.Nums[3], end); lesser > p.committed {
		p.committed = lesser
	}
	return []api.Msg{msg(p.id, m.From, took, nil, p.term, 1, end)}
}

// hearTook is 4 of P16.3.
func (p *paper) hearTook(m api.Msg, _ int) []api.Msg {
	number := m.Nums[2]
	if p.role != leads || m.Nums[0] != p.term || number > len(p.log) {
		return nil
	}
	if m.Nums[1] == 0 {
		p.next[m.From] = max(number+1, p.match[m.From]+1)
		return []api.Msg{p.sends(m.From)}
	}
	p.match[m.From] = max(p.match[m.From], number)
	p.next[m.From] = max(p.next[m.From], number+1)
	if grew := p.commit(); grew || p.next[m.From] <= len(p.log) {
		return []api.Msg{p.sends(m.From)}
	}
	return nil
}

// propose is a Propose.
func (p *paper) propose(data []byte) (int, []api.Msg, api.Errno) {
	switch {
	case p.stopped:
		return 0, nil, api.ErrFull
	case p.role != leads:
		return 0, nil, api.ErrLead
	case len(data) == 0 || len(data) > 65536:
		return 0, nil, api.ErrArg
	}
	l := p.call(func() []api.Msg {
		p.lay(api.Entry{Term: p.term, Data: bytes.Clone(data)})
		p.commit()
		return p.each(p.sends)
	})
	if p.stopped {
		return 0, nil, api.ErrFull
	}
	return len(p.log), l, api.OK
}

// bench is a node on its disk, and both on paper: what is done to the one is done to the other, and they are held against each other.
type bench struct {
	t *testing.T
	d *disk.Disk
	r *raft.Node
	p *paper
}

// made is a disk of a room.
func made(t *testing.T, room int) *disk.Disk {
	t.Helper()
	d, e := disk.New(room)
	if d == nil || e != api.OK {
		t.Fatalf("a room of %d: error %d", room, e)
	}
	return d
}

// lay lays a file that lasts, in the place of one that is there.
func lay(t *testing.T, d *disk.Disk, name string, b []byte) {
	t.Helper()
	d.Remove(name)
	if e := d.Append(name, b); e != api.OK {
		t.Fatalf("%q: error %d", name, e)
	}
	d.Sync(name)
}

// in is a bench of a node whose disk has a term, a vote and a log, and some room behind them (below 0: very much).
func in(t *testing.T, id, n, room, term, vote int, l ...api.Entry) *bench {
	t.Helper()
	p := &paper{id: id, n: n, room: 1 << 24, term: term, vote: vote, file: framed(uv(term, vote+1)), log: l}
	used := 0
	for _, b := range p.files() {
		used += len(b)
	}
	if room >= 0 {
		p.room = used + room
	}
	x := &bench{t: t, d: made(t, p.room), p: p}
	for name, b := range p.files() {
		lay(t, x.d, name, b)
	}
	x.open(0)
	return x
}

// fresh is a bench of a node on an empty disk.
func fresh(t *testing.T, id, n, room, draw int) *bench {
	t.Helper()
	x := &bench{t: t, d: made(t, room), p: &paper{id: id, n: n, room: room, vote: -1}}
	x.open(draw)
	return x
}

// open is another Open.
func (x *bench) open(draw int) {
	x.t.Helper()
	r, e := raft.Open(x.p.id, x.p.n, x.d, draw)
	if r == nil || e != api.OK {
		x.t.Fatalf("Open of %d of %d: error %d", x.p.id, x.p.n, e)
	}
	x.r = r
	x.p.opened(draw)
	x.agrees("Open")
}

// crash is a Crash and another Open.
func (x *bench) crash(draw int) {
	x.t.Helper()
	x.d.Crash(draw)
	x.open(draw)
}

// tick is a Tick; what is sent.
func (x *bench) tick(draw int) []api.Msg {
	x.t.Helper()
	l := x.r.Tick(draw)
	x.sends("Tick", l, x.p.call(func() []api.Msg { return x.p.tick(draw) }))
	return l
}

// ticks is n Ticks that send nothing, and one more; what that one sends.
func (x *bench) ticks(n, draw int) []api.Msg {
	x.t.Helper()
	for range n {
		if l := x.tick(draw); len(l) > 0 {
			x.t.Errorf("a Tick too early sends %v", l)
		}
	}
	return x.tick(draw)
}

// hear is a Hear; what is sent.
func (x *bench) hear(m api.Msg, draw int) []api.Msg {
	x.t.Helper()
	l := x.r.Hear(m, draw)
	x.sends("Hear of "+short(m), l, x.p.call(func() []api.Msg { return x.p.hear(m, draw) }))
	return l
}

// propose is a Propose; what is sent.
func (x *bench) propose(data []byte) []api.Msg {
	x.t.Helper()
	i, l, e := x.r.Propose(data)
	wantI, want, wantE := x.p.propose(data)
	if i != wantI || e != wantE {
		x.t.Errorf("Propose of %d bytes: %d, error %d, not %d, %d", len(data), i, e, wantI, wantE)
	}
	x.sends("Propose", l, want)
	return l
}

// take is a Take; what is taken.
func (x *bench) take() []api.Entry {
	x.t.Helper()
	l := x.r.Take()
	var want []api.Entry
	if !x.p.stopped {
		want = x.p.log[x.p.taken:x.p.committed]
		x.p.taken = x.p.committed
	}
	isTaken(x.t, l, want...)
	return l
}

// sends asks for messages, and whether all else is as on paper.
func (x *bench) sends(name string, l, want []api.Msg) {
	x.t.Helper()
	if !slices.EqualFunc(l, want, same) {
		x.t.Errorf("%s: sends %s, not %s", name, short(l), short(want))
	}
	x.agrees(name)
}

// agrees asks for what State and Log are on paper, for the disk's files, and whether they last.
func (x *bench) agrees(name string) {
	x.t.Helper()
	p := x.p
	want := [5]int{p.role, p.term, p.leader, len(p.log), p.committed}
	if p.stopped {
		want = [5]int{0, 0, -1, 0, 0}
	}
	x.is(name, want)
	x.has(name, x.d)
	c := x.d.Copy()
	c.Crash(0)
	x.has(name+" and a Crash", c)
}

// is asks for what State and Log are.
func (x *bench) is(name string, want [5]int) {
	x.t.Helper()
	role, term, leader := x.r.State()
	last, committed := x.r.Log()
	if got := [5]int{role, term, leader, last, committed}; got != want {
		x.t.Errorf("%s: State and Log are %d, not %d", name, got, want)
	}
}

// has asks for a disk's files.
func (x *bench) has(name string, d *disk.Disk) {
	x.t.Helper()
	files := x.p.files()
	if names := slices.Sorted(maps.Keys(files)); !slices.Equal(d.List(), names) {
		x.t.Errorf("%s: files %q, not %q", name, d.List(), names)
	}
	for file, want := range files {
		if b, _ := d.Read(file); !bytes.Equal(b, want) {
			x.t.Errorf("%s: %q is %.60x of %d bytes, not %.60x of %d", name, file, b, len(b), want, len(want))
		}
	}
}

// same tells whether two messages are the same.
func same(m, o api.Msg) bool {
	return m.From == o.From && m.To == o.To && m.Kind == o.Kind && slices.Equal(m.Nums, o.Nums) && bytes.Equal(m.Data, o.Data)
}

// alike tells whether two entries are the same.
func alike(e, o api.Entry) bool { return e.Term == o.Term && bytes.Equal(e.Data, o.Data) }

// short is anything as text, but its beginning alone.
func short(x any) string { return fmt.Sprintf("%.200s", fmt.Sprint(x)) }

// are asks for messages.
func are(t *testing.T, name string, l []api.Msg, want ...api.Msg) {
	t.Helper()
	if !slices.EqualFunc(l, want, same) {
		t.Errorf("%s: sent is %s, not %s", name, short(l), short(want))
	}
}

// isTaken asks for entries.
func isTaken(t *testing.T, l []api.Entry, want ...api.Entry) {
	t.Helper()
	if !slices.EqualFunc(l, want, alike) {
		t.Errorf("taken is %s, not %s", short(l), short(want))
	}
}
