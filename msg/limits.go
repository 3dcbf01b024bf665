package msg

import "parapet/api"

// maxSnapData is how many bytes the Data of a snapshot may have.
const maxSnapData = api.MaxFrame / 2

// encodable tells whether a message has an encoding.
func encodable(m api.Msg) bool {
	return m.Kind >= api.MsgVote && m.Kind <= api.MsgSnap && isNode(m.From) && isNode(m.To) &&
		natural(m.Term, m.Index, m.LogTerm, m.Commit) &&
		entriesEncodable(m.Entries) && snapEncodable(m.Snap) && isEmpty(unlisted(m))
}

func isNode(n int) bool { return n >= 1 && n <= api.MaxNodes }

// natural tells whether no number is negative.
func natural(l ...int) bool {
	for _, n := range l {
		if n < 0 {
			return false
		}
	}
	return true
}

func entriesEncodable(l []api.Entry) bool {
	if len(l) > api.MaxBatch {
		return false
	}
	for _, e := range l {
		if !natural(e.Index, e.Term, e.Kind) || len(e.Data) > api.MaxData || !membersEncodable(e.Members) {
			return false
		}
	}
	return true
}

func snapEncodable(s api.Snap) bool {
	return natural(s.Index, s.Term) && len(s.Data) <= maxSnapData && membersEncodable(s.Members)
}

// membersEncodable lets any numbers pass: that they are nodes' is the raft's care.
func membersEncodable(l []int) bool { return len(l) <= api.MaxNodes && natural(l...) }

// unlisted is a message without the fields that its Kind lists.
func unlisted(m api.Msg) api.Msg {
	switch m.Kind {
	case api.MsgVote:
		m.Index, m.LogTerm = 0, 0
	case api.MsgVoted:
		m.Yes = false
	case api.MsgAppend:
		m.Index, m.LogTerm, m.Commit, m.Entries = 0, 0, 0, nil
	case api.MsgAnswer:
		m.Yes, m.Index = false, 0
	case api.MsgSnap:
		m.Snap = api.Snap{}
	}
	return m
}

// isEmpty tells whether all fields are zero but those that every Kind lists.
func isEmpty(m api.Msg) bool {
	s := m.Snap
	return m.Index == 0 && m.LogTerm == 0 && m.Commit == 0 && !m.Yes && len(m.Entries) == 0 &&
		s.Index == 0 && s.Term == 0 && len(s.Members) == 0 && s.Data == ""
}
