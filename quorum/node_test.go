package quorum_test

import (
	"encoding/binary"
	"slices"

	"garner/api"
)

// Roles and Kinds, as chapter 16 numbers them.
const (
	follows, stands, leads = 0, 1, 2

	asks, votes, entries, took = 1, 2, 3, 4
)

// mail is a message as chapter 16's words have it.
type mail struct {
	from, to, kind int
	term           int
	yes            bool // of votes and took
	number         int  // of the last entry, of the one ahead, or which it took
	of             int  // that entry's term
	committed      int
	entries        []api.Entry
}

// sheet is a node as chapter 16's words have it, with what its disk has.
type sheet struct {
	id, n int

	other      int  // bytes of a file that is none of its own; 0: there is none
	filed      bool // there is a file of term and vote
	term, vote int
	log        []api.Entry // from the number 1 on

	stopped      bool
	role, leader int
	committed    int
	taken        int
	wait         int
	voters       map[int]bool
	next, match  map[int]int
}

// full is a disk that is full where something is to be written.
type full struct{}

// length is how many bytes numbers have, in groups of seven digits each.
func length(l ...int) int {
	n := 0
	for _, v := range l {
		n += len(binary.AppendUvarint(nil, uint64(v)))
	}
	return n
}

// recorded is how many bytes the entry of a number has in the log.
func recorded(i int, e api.Entry) int { return 8 + length(i, e.Term) + len(e.Data) }

// used is how many bytes and files a disk has with a log, and with term and vote.
func (p *sheet) used(log []api.Entry) (bytes, files int) {
	if p.other > 0 {
		bytes, files = p.other, 1
	}
	segment := 1024
	for i, e := range log {
		if segment >= 1024 {
			files++
			segment = 0
		}
		segment += recorded(i+1, e)
		bytes += recorded(i+1, e)
	}
	if p.filed {
		bytes += 8 + length(p.term, p.vote+1)
		files++
	}
	return bytes, files
}

// opened is what an Open makes of it.
func (p *sheet) opened(draw int) {
	p.stopped, p.role, p.leader, p.committed, p.taken = false, follows, -1, 0, 0
	p.anew(draw)
}

// anew is to wait anew.
func (p *sheet) anew(draw int) { p.wait = 10 + draw%10 }

// save writes term and vote: the new file stands beside the old one at first.
func (p *sheet) save(term, vote int) {
	bytes, files := p.used(p.log)
	if bytes+8+length(term, vote+1) > 1<<20 || files+1 > 256 {
		panic(full{})
	}
	p.filed, p.term, p.vote = true, term, vote
}

// lay writes an entry.
func (p *sheet) lay(e api.Entry) {
	l := append(slices.Clip(p.log), e)
	if bytes, files := p.used(l); bytes > 1<<20 || files > 256 {
		panic(full{})
	}
	p.log = l
}

// at is the term of an entry; -1, if there is none.
func (p *sheet) at(i int) int {
	switch {
	case i == 0:
		return 0
	case i > len(p.log):
		return -1
	}
	return p.log[i-1].Term
}

// call is what a call sends, in which the disk may turn out to be full.
func (p *sheet) call(f func() []mail) (l []mail) {
	if p.stopped {
		return nil
	}
	defer func() {
		switch x := recover().(type) {
		case nil:
		case full:
			l, p.stopped = nil, true
		default:
			panic(x)
		}
	}()
	return f()
}

// each is a message to each other node.
func (p *sheet) each(make func(to int) mail) []mail {
	var l []mail
	for to := 0; to < p.n; to++ {
		if to != p.id {
			l = append(l, make(to))
		}
	}
	return l
}

// sends is to send entries.
func (p *sheet) sends(to int) mail {
	ahead := p.next[to] - 1
	l := p.log[ahead:]
	if len(l) > 8 {
		l = l[:8]
	}
	return mail{from: p.id, to: to, kind: entries, term: p.term, number: ahead, of: p.at(ahead), committed: p.committed, entries: slices.Clone(l)}
}

// leading is what one does that becomes leader.
func (p *sheet) leading() []mail {
	p.role = leads
	p.next, p.match = map[int]int{}, map[int]int{}
	for i := range p.n {
		p.next[i] = len(p.log) + 1
	}
	p.lay(api.Entry{Term: p.term})
	p.leader, p.wait = p.id, 3
	p.commit()
	return p.each(p.sends)
}

// commit is committed as most have it; whether it grew.
func (p *sheet) commit() bool {
	was := p.committed
	for i := was + 1; i <= len(p.log); i++ {
		have := 1
		for to := range p.n {
			if to != p.id && p.match[to] >= i {
				have++
			}
		}
		if have > p.n-have && p.at(i) == p.term {
			p.committed = i
		}
	}
	return p.committed > was
}

// tick is a Tick.
func (p *sheet) tick(draw int) []mail {
	p.wait--
	if p.wait != 0 {
		return nil
	}
	if p.role == leads {
		p.wait = 3
		return p.each(p.sends)
	}
	p.save(p.term+1, p.id)
	p.role, p.leader, p.voters = stands, -1, map[int]bool{p.id: true}
	p.anew(draw)
	if p.n == 1 {
		return p.leading()
	}
	return p.each(func(to int) mail {
		return mail{from: p.id, to: to, kind: asks, term: p.term, number: len(p.log), of: p.at(len(p.log))}
	})
}

// hear is a Hear.
func (p *sheet) hear(m mail, draw int) []mail {
	if m.term > p.term {
		p.save(m.term, -1)
		p.role, p.leader = follows, -1
	}
	switch m.kind {
	case asks:
		return p.hearAsks(m, draw)
	case votes:
		return p.hearVotes(m)
	case entries:
		return p.hearEntries(m, draw)
	}
	return p.hearTook(m)
}

// answers is a message back.
func (p *sheet) answers(m mail, kind int, yes bool, number int) []mail {
	return []mail{{from: p.id, to: m.from, kind: kind, term: p.term, yes: yes, number: number}}
}

// hearAsks is 1 of P16.3.
func (p *sheet) hearAsks(m mail, draw int) []mail {
	own := p.at(len(p.log))
	free := p.vote == -1 || p.vote == m.from
	if m.term != p.term || !free || m.of < own || m.of == own && m.number < len(p.log) {
		return p.answers(m, votes, false, 0)
	}
	if p.vote == -1 {
		p.save(p.term, m.from)
	}
	p.anew(draw)
	return p.answers(m, votes, true, 0)
}

// hearVotes is 2 of P16.3.
func (p *sheet) hearVotes(m mail) []mail {
	if p.role != stands || m.term != p.term || !m.yes {
		return nil
	}
	p.voters[m.from] = true
	if 2*len(p.voters) < p.n {
		return nil
	}
	return p.leading()
}

// hearEntries is 3 of P16.3.
func (p *sheet) hearEntries(m mail, draw int) []mail {
	if m.term < p.term {
		return p.answers(m, took, false, 0)
	}
	p.role, p.leader = follows, m.from
	p.anew(draw)
	if p.at(m.number) != m.of {
		return p.answers(m, took, false, max(0, min(len(p.log), m.number-1)))
	}
	at := m.number
	for i, e := range m.entries {
		at++
		if p.at(at) == e.Term {
			continue
		}
		if at <= p.committed {
			return nil
		}
		p.log = p.log[:at-1]
		for _, e := range m.entries[i:] {
			p.lay(e)
		}
		break
	}
	end := m.number + len(m.entries)
	p.committed = max(p.committed, min(m.committed, end))
	return p.answers(m, took, true, end)
}

// hearTook is 4 of P16.3.
func (p *sheet) hearTook(m mail) []mail {
	if p.role != leads || m.term != p.term || m.number > len(p.log) {
		return nil
	}
	if !m.yes {
		p.next[m.from] = max(m.number+1, p.match[m.from]+1)
		return []mail{p.sends(m.from)}
	}
	p.match[m.from] = max(p.match[m.from], m.number)
	p.next[m.from] = max(p.next[m.from], m.number+1)
	if grew := p.commit(); grew || p.next[m.from] <= len(p.log) {
		return []mail{p.sends(m.from)}
	}
	return nil
}

// propose is a Propose.
func (p *sheet) propose(data []byte) (int, []mail, api.Errno) {
	switch {
	case p.stopped:
		return 0, nil, api.ErrFull
	case p.role != leads:
		return 0, nil, api.ErrLead
	case len(data) == 0 || len(data) > 65536:
		return 0, nil, api.ErrArg
	}
	l := p.call(func() []mail {
		p.lay(api.Entry{Term: p.term, Data: slices.Clone(data)})
		p.commit()
		return p.each(p.sends)
	})
	if p.stopped {
		return 0, nil, api.ErrFull
	}
	return len(p.log), l, api.OK
}

// take is a Take.
func (p *sheet) take() []api.Entry {
	if p.stopped {
		return nil
	}
	l := p.log[p.taken:p.committed]
	p.taken = p.committed
	return l
}
