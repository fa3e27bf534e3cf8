package raft

import (
	"slices"

	"glebe/api"
	"glebe/image"
	"glebe/pack"
	"glebe/quorum"
	"glebe/rlog"
	"glebe/vote"
)

// hears reports whether a message concerns the member: a node that is no voter may not even raise the term by asking for votes.
func (r *Raft) hears(m api.Msg) bool {
	switch {
	case m.Group != r.hard.Group:
		return false
	case m.Kind == api.MVote:
		return r.votes(m.From)
	}
	return m.Kind > api.MVote && m.Kind <= api.MSnap
}

// voted is an answer to who asks for a vote.
func (r *Raft) voted(m api.Msg, ok bool) api.Msg {
	return api.Msg{Kind: api.MVoted, From: r.id, To: m.From, Group: r.hard.Group, Term: r.hard.Term, Ok: ok}
}

// appended is an answer to a leader: how far the log matches, or how far back it may.
func (r *Raft) appended(m api.Msg, ok bool, index int) api.Msg {
	return api.Msg{Kind: api.MAppended, From: r.id, To: m.From, Group: r.hard.Group, Term: r.hard.Term, Ok: ok, Index: index, Round: m.Round}
}

// outdate tells who asks something in an earlier term that there is a later one.
func (r *Raft) outdate(m api.Msg, send func(api.Msg)) {
	switch m.Kind {
	case api.MVote:
		send(r.voted(m, false))
	case api.MAppend, api.MSnap:
		m.Round = 0
		send(r.appended(m, false, 0))
	}
}

// judge gives a candidate the vote of this term, or refuses it.
func (r *Raft) judge(m api.Msg, change func(api.Change), send func(api.Msg)) {
	granted := vote.Grants(r.hard.Term, r.hard.Vote, r.hard.Log, m)
	if granted {
		if r.hard.Vote != m.From {
			r.enter(r.hard.Term, m.From, change)
		}
		r.elapsed = 0
	}
	send(r.voted(m, granted))
}

// count is what a Candidate does with an answer of a voter.
func (r *Raft) count(m api.Msg, change func(api.Change), send func(api.Msg)) {
	if r.role != api.Candidate || !m.Ok || !r.votes(m.From) || slices.Contains(r.granted, m.From) {
		return
	}
	r.granted = append(r.granted, m.From)
	if quorum.Won(r.members(), r.granted) {
		r.lead(change, send)
	}
}

// follow takes a leader's entries, where the log matches the leader's ahead of them.
func (r *Raft) follow(m api.Msg, change func(api.Change), send func(api.Msg)) {
	if r.role == api.Leader {
		return
	}
	r.obey(m.From)
	term, ok := rlog.Term(r.hard.Log, m.Index)
	switch {
	case m.Index < r.hard.Log.Base:
		send(r.appended(m, true, r.commit))
	case !ok || term != m.Prev:
		send(r.appended(m, false, max(0, min(r.last(), m.Index-1))))
	default:
		r.take(m, change, send)
	}
}

// take lets a leader's entries follow the index ahead of them, unless they contradict what is committed.
func (r *Raft) take(m api.Msg, change func(api.Change), send func(api.Msg)) {
	// What stands up to that index stays: so the log behind it is all that has to be compared.
	behind := api.Log{Entries: r.hard.Log.Entries[m.Index-r.hard.Log.Base:]}
	behind, first := rlog.Append(behind, 0, m.Entries)
	if first > 0 {
		from := m.Index + first
		if from <= r.commit {
			return
		}
		r.lay(from, behind.Entries[first-1:], change)
	}
	n := m.Index + len(m.Entries)
	r.commit = max(r.commit, min(m.Commit, n))
	send(r.appended(m, true, n))
}

// restore takes a leader's snapshot in place of what is not known to be committed here, and reports whether it did.
func (r *Raft) restore(m api.Msg, change func(api.Change), send func(api.Msg)) bool {
	if r.role == api.Leader {
		return false
	}
	r.obey(m.From)
	if m.Index <= r.commit {
		send(r.appended(m, true, r.commit))
		return false
	}
	members, snap, ok := snapshot(m.Data)
	if !ok {
		return false
	}
	r.rebase(api.Log{Base: m.Index, BaseTerm: m.Prev}, members, snap, change)
	r.commit, r.applied = m.Index, m.Index
	send(r.appended(m, true, m.Index))
	return true
}

// obey follows a leader of this term.
func (r *Raft) obey(leader int) {
	r.become(api.Follower, leader)
	r.elapsed = 0
}

// snapshot is the members and the snapshot that an MSnap's bytes tell, and whether they tell any.
func snapshot(data []byte) (api.Conf, []byte, bool) {
	b := pack.Read(data)
	told, snap := b.Blob(), b.Blob()
	members, e := image.GetConf(told)
	if b.End() != api.OK || e != api.OK {
		return api.Conf{}, nil, false
	}
	return members, snap, true
}
