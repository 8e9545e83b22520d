package raft

import "garner/api"

// Kinds of messages.
const (
	asks = 1 + iota // for votes
	votes
	entries
	tookThem
)

// maxNumber is the greatest term, and the greatest number of an entry, that a message may tell.
const maxNumber = 1 << 40

// isMeant tells whether a message is one for the node, with numbers as its Kind has them.
func (r *Node) isMeant(m api.Msg) bool {
	if m.To != r.id || m.From == r.id || m.From < 0 || m.From >= r.n {
		return false
	}
	switch m.Kind {
	case asks:
		return areNumbers(m.Nums, 3)
	case votes:
		return areNumbers(m.Nums, 2) && m.Nums[1] <= 1
	case entries:
		return areNumbers(m.Nums, 4)
	case tookThem:
		return areNumbers(m.Nums, 3) && m.Nums[1] <= 1
	}
	return false
}

// areNumbers tells whether a message's numbers are n, each a term or a number.
func areNumbers(l []int, n int) bool {
	for _, v := range l {
		if v < 0 || v > maxNumber {
			return false
		}
	}
	return len(l) == n
}

// asked is another one that stands for election.
func (r *Node) asked(m api.Msg, draw int) []api.Msg {
	term, last, lastTerm := m.Nums[0], m.Nums[1], m.Nums[2]
	if term != r.term || r.vote != nobody && r.vote != m.From || !r.isAsNew(last, lastTerm) {
		return r.answer(m, votes, r.term, 0)
	}
	if r.vote != m.From && !r.save(r.term, m.From) {
		return nil
	}
	r.waitAnew(draw)
	return r.answer(m, votes, r.term, 1)
}

// isAsNew tells whether a log with that last entry is at least as new as its own.
func (r *Node) isAsNew(last, term int) bool {
	own := r.termOf(r.last())
	return term > own || term == own && last >= r.last()
}

// voted is another one's vote, or that it has none.
func (r *Node) voted(m api.Msg) []api.Msg {
	term, yes := m.Nums[0], m.Nums[1]
	if r.role != candidate || term != r.term || yes == 0 {
		return nil
	}
	r.votes |= 1 << m.From
	if !r.isMost(r.votes) {
		return nil
	}
	return r.lead()
}

// told is entries of one who leads.
func (r *Node) told(m api.Msg, l []api.Entry, draw int) []api.Msg {
	term, ahead, aheadTerm, committed := m.Nums[0], m.Nums[1], m.Nums[2], m.Nums[3]
	if term < r.term {
		return r.answer(m, tookThem, r.term, 0, 0)
	}
	r.role, r.leader = follower, m.From
	r.waitAnew(draw)
	if !r.has(ahead, aheadTerm) {
		return r.answer(m, tookThem, r.term, 0, max(0, min(r.last(), ahead-1)))
	}
	if !r.join(ahead+1, l) {
		return nil
	}
	// Of what the log has behind these it is not known whether the leader has it.
	end := ahead + len(l)
	r.committed = max(r.committed, min(committed, end))
	return r.answer(m, tookThem, r.term, 1, end)
}

// join makes the log have entries from a number on; it tells whether it has them.
func (r *Node) join(at int, l []api.Entry) bool {
	for len(l) > 0 && r.has(at, l[0].Term) {
		at, l = at+1, l[1:]
	}
	if len(l) == 0 {
		return true
	}
	// No leader sends another entry in the place of one that is agreed upon.
	if at <= r.committed {
		return false
	}
	if e := r.log.Cut(at); e != api.OK {
		r.stop()
		return false
	}
	return r.lay(l)
}

// took is what another one has of the entries that were sent to it.
func (r *Node) took(m api.Msg) []api.Msg {
	term, yes, number := m.Nums[0], m.Nums[1], m.Nums[2]
	if r.role != leader || term != r.term || number > r.last() {
		return nil
	}
	p := &r.others[m.From]
	if yes == 0 {
		p.next = max(number, p.match) + 1
		return []api.Msg{r.entriesTo(m.From)}
	}
	p.match = max(p.match, number)
	p.next = max(p.next, number+1)
	if !r.commit() && p.next > r.last() {
		return nil
	}
	return []api.Msg{r.entriesTo(m.From)}
}

// answer is a message to the one that a message came from.
func (r *Node) answer(m api.Msg, kind int, nums ...int) []api.Msg {
	return []api.Msg{r.message(m.From, kind, nums...)}
}

// message is one without Data.
func (r *Node) message(to, kind int, nums ...int) api.Msg {
	return api.Msg{From: r.id, To: to, Kind: kind, Nums: nums}
}

// asksTo is a message that asks for a vote.
func (r *Node) asksTo(to int) api.Msg {
	last := r.last()
	return r.message(to, asks, r.term, last, r.termOf(last))
}

// entriesTo is a message with the entries that are sent next.
func (r *Node) entriesTo(to int) api.Msg {
	ahead := r.others[to].next - 1
	m := r.message(to, entries, r.term, ahead, r.termOf(ahead), r.committed)
	for i := range min(maxAtOnce, r.last()-ahead) {
		m.Data = append(m.Data, sent(r.entry(ahead+1+i))...)
	}
	return m
}

// toOthers is a message to each other node, rising.
func (r *Node) toOthers(message func(to int) api.Msg) []api.Msg {
	var l []api.Msg
	for to := range r.n {
		if to != r.id {
			l = append(l, message(to))
		}
	}
	return l
}
