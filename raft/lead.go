package raft

import (
	"slices"

	"parapet/api"
)

// progress is how far a leader knows a node to be.
type progress struct {
	next  int // the entry that it is sent next
	match int // up to here its log is the leader's
}

// wait lets a Tick pass for a node that is no leader.
func (r *Raft) wait() []api.Msg {
	switch {
	case !r.runsOut():
		return nil
	case r.isMember(r.id):
		return r.stand()
	}
	r.restart()
	return nil
}

// stand starts an election.
func (r *Raft) stand() []api.Msg {
	r.Term++
	r.Vote = r.id
	r.role, r.leader = candidate, 0
	r.votes = [api.MaxNodes + 1]bool{}
	r.votes[r.id] = true
	r.restart()
	m := api.Msg{Kind: api.MsgVote, Index: r.last(), LogTerm: r.term(r.last())}
	return append(r.send(m, r.peers()...), r.elect()...)
}

// elect makes a candidate the leader if it has the votes.
func (r *Raft) elect() []api.Msg {
	n := 0
	for _, node := range r.members {
		if r.votes[node] {
			n++
		}
	}
	if !r.isMajority(n) {
		return nil
	}
	return r.lead()
}

// lead makes the node the leader. Only by an entry of its own Term can it commit
// those that are there already.
func (r *Raft) lead() []api.Msg {
	r.role, r.leader = leader, r.id
	for node := range r.others {
		r.others[node] = progress{next: r.last() + 1}
	}
	r.beats = 0
	_, out := r.put(api.Entry{Kind: api.EntryNone})
	return out
}

// remind has the Peers hear of a leader from time to time.
func (r *Raft) remind() []api.Msg {
	if !r.isBeat() {
		return nil
	}
	return r.tell(r.peers()...)
}

// put appends entries of the current Term to a leader's log and tells the Peers.
func (r *Raft) put(l ...api.Entry) (index int, out []api.Msg) {
	index = r.last() + 1
	for i := range l {
		l[i].Index, l[i].Term = index+i, r.Term
	}
	r.extend(l...)
	out = r.tell(r.peers()...)
	r.advance()
	return index, out
}

// tell sends to nodes what they lack, as far as the leader knows.
func (r *Raft) tell(to ...int) []api.Msg {
	var out []api.Msg
	for _, node := range to {
		out = append(out, r.send(r.news(r.others[node].next), node)...)
	}
	return out
}

// news is the message for a node that lacks the entries from next on.
func (r *Raft) news(next int) api.Msg {
	if next <= r.Snap.Index && r.Snap.Index > 0 {
		return api.Msg{Kind: api.MsgSnap, Snap: cloneSnap(r.Snap)}
	}
	l := r.Log[r.upTo(next-1):]
	return api.Msg{
		Kind:    api.MsgAppend,
		Index:   next - 1,
		LogTerm: r.term(next - 1),
		Commit:  r.commit,
		Entries: cloneEntries(l[:min(len(l), api.MaxBatch)]),
	}
}

// hear handles a MsgAnswer.
func (r *Raft) hear(m api.Msg) []api.Msg {
	if r.role != leader || !r.isMember(m.From) {
		return nil
	}
	p := &r.others[m.From]
	if !m.Yes {
		p.next = max(1, min(p.next-1, m.Index+1))
		return r.tell(m.From)
	}
	if m.Index > r.last() {
		return nil
	}
	p.match = max(p.match, m.Index)
	p.next = p.match + 1
	r.advance()
	if r.role != leader || p.next > r.last() {
		return nil
	}
	return r.tell(m.From)
}

// advance commits what a majority has, and has a leader step down that is no
// Member any more. Whether an older entry is committed can't be told before one
// of the current Term is; and those stand all at the end of a leader's log.
func (r *Raft) advance() {
	if i := r.agreed(); i > r.commit && r.term(i) == r.Term {
		r.commit = i
	}
	if !r.isMember(r.id) && !r.isChanging() {
		r.follow(0)
	}
}

// agreed is the greatest index up to which a majority of the Members has the
// leader's log.
func (r *Raft) agreed() int {
	var l []int
	for _, node := range r.members {
		if node == r.id {
			l = append(l, r.last())
		} else {
			l = append(l, r.others[node].match)
		}
	}
	slices.Sort(l)
	return l[(len(l)-1)/2]
}
