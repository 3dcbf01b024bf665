package raft

import "parapet/api"

// refuse replies to a message of an earlier term.
func (r *Raft) refuse(m api.Msg) []api.Msg {
	switch m.Kind {
	case api.MsgVote:
		return r.sayVoted(m.From, false)
	case api.MsgAppend, api.MsgSnap:
		return r.answer(m.From, false, 0)
	}
	return nil
}

// enter begins a later term, in which the node has neither voted nor heard of a
// leader.
func (r *Raft) enter(term int) {
	r.Term, r.Vote = term, 0
	r.role, r.leader = follower, 0
}

// vote handles a MsgVote.
func (r *Raft) vote(m api.Msg) []api.Msg {
	granted := (r.Vote == 0 || r.Vote == m.From) && r.isUpToDate(m)
	if granted {
		r.Vote = m.From
		r.restart()
	}
	return r.sayVoted(m.From, granted)
}

// isUpToDate tells whether the log of a MsgVote's node lacks nothing that this
// one's may have committed.
func (r *Raft) isUpToDate(m api.Msg) bool {
	term := r.term(r.last())
	return m.LogTerm > term || m.LogTerm == term && m.Index >= r.last()
}

// count handles a MsgVoted.
func (r *Raft) count(m api.Msg) []api.Msg {
	if r.role != candidate || !m.Yes || !r.isMember(m.From) {
		return nil
	}
	r.votes[m.From] = true
	return r.elect()
}

// copyEntries handles a MsgAppend.
func (r *Raft) copyEntries(m api.Msg) []api.Msg {
	if r.role == leader || !isRow(m.Entries, m.Index, 0, m.Term) {
		return nil
	}
	r.follow(m.From)
	if m.Index > r.last() || m.Index >= r.Snap.Index && r.term(m.Index) != m.LogTerm {
		return r.answer(m.From, false, max(0, min(r.last(), m.Index-1)))
	}
	if l := r.missing(m.Entries); len(l) > 0 {
		if l[0].Index <= r.commit {
			return r.answer(m.From, false, r.commit)
		}
		r.truncate(l[0].Index)
		r.extend(l...)
	}
	end := m.Index + len(m.Entries)
	r.commit = max(r.commit, min(m.Commit, end, r.last()))
	return r.answer(m.From, true, end)
}

// copySnap handles a MsgSnap.
func (r *Raft) copySnap(m api.Msg) []api.Msg {
	if r.role == leader || !isSnap(m.Snap, m.Term) {
		return nil
	}
	r.follow(m.From)
	if m.Snap.Index > r.commit {
		r.cover(m.Snap)
		r.commit = m.Snap.Index
	}
	return r.answer(m.From, true, r.commit)
}

// follow takes a node, or nobody if it is 0, for the leader of the current term.
func (r *Raft) follow(node int) {
	r.role, r.leader = follower, node
	r.restart()
}

func (r *Raft) sayVoted(to int, yes bool) []api.Msg {
	return r.send(api.Msg{Kind: api.MsgVoted, Yes: yes}, to)
}

func (r *Raft) answer(to int, yes bool, index int) []api.Msg {
	return r.send(api.Msg{Kind: api.MsgAnswer, Yes: yes, Index: index}, to)
}
