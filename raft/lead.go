package raft

import (
	"bytes"
	"slices"

	"glebe/api"
	"glebe/flow"
	"glebe/image"
	"glebe/quorum"
	"glebe/vote"
)

// mayStand reports whether the member may ask for votes.
func (r *Raft) mayStand() bool {
	return r.votes(r.id) && r.hard.Term < api.MaxNumber && r.last() < api.MaxNumber
}

// stand makes the member a Candidate of the next term.
func (r *Raft) stand(draw int, change func(api.Change), send func(api.Msg)) {
	r.enter(r.hard.Term+1, r.id, change)
	r.become(api.Candidate, 0)
	r.elapsed, r.timeout = 0, vote.Timeout(draw)
	r.granted = []int{r.id}
	c := r.members()
	if quorum.Won(c, r.granted) {
		r.lead(change, send)
		return
	}
	for _, ask := range vote.Asks(r.id, r.hard.Group, r.hard.Term, r.hard.Log, c) {
		send(ask)
	}
}

// lead makes the member the Leader: by an entry of its term, all that is ahead of it may be committed.
func (r *Raft) lead(change func(api.Change), send func(api.Msg)) {
	r.become(api.Leader, r.id)
	r.beat = 0
	r.attend(r.last())
	r.add(api.ENoop, nil, change)
	r.spread(send)
}

// pulse lets a Leader send on every second tick.
func (r *Raft) pulse(send func(api.Msg)) {
	r.beat++
	if r.beat >= api.Beat {
		r.beat = 0
		r.replicate(send)
	}
}

// refusal is what forbids a proposal.
func (r *Raft) refusal(kind int, data []byte) api.Errno {
	switch {
	case r.role != api.Leader:
		return api.ErrLeader
	case kind != api.EOp && kind != api.EConf:
		return api.ErrKind
	case kind == api.EConf && !tells(data):
		return api.ErrForm
	case r.last() >= api.MaxNumber:
		return api.ErrMany
	}
	return api.OK
}

// tells reports whether bytes tell members.
func tells(data []byte) bool {
	_, e := image.GetConf(data)
	return e == api.OK
}

// add lets an entry follow the last one, and answers its index.
func (r *Raft) add(kind int, data []byte, change func(api.Change)) int {
	last := r.last()
	r.lay(last+1, []api.Entry{{Term: r.hard.Term, Kind: kind, Data: bytes.Clone(data)}}, change)
	if kind == api.EConf {
		r.attend(last)
	}
	return last + 1
}

// attend keeps a flow to each other member, and no more: to a new one by the last index that is nothing new to anybody.
func (r *Raft) attend(last int) {
	var flows []api.Flow
	for _, node := range quorum.Members(r.members()) {
		if node == r.id {
			continue
		}
		if at := r.flowTo(node); at >= 0 {
			flows = append(flows, r.flows[at])
		} else {
			flows = append(flows, flow.New(node, last))
		}
	}
	r.flows = flows
}

// flowTo is where the flow to a node stands; -1 if there is none.
func (r *Raft) flowTo(node int) int {
	return slices.IndexFunc(r.flows, func(f api.Flow) bool { return f.Node == node })
}

// spread sends what was added, and commits it if nobody else has to have it.
func (r *Raft) spread(send func(api.Msg)) {
	r.replicate(send)
	r.advance()
}

// replicate sends to each other member what comes next there.
func (r *Raft) replicate(send func(api.Msg)) {
	for _, f := range r.flows {
		send(r.next(f))
	}
}

func (r *Raft) next(f api.Flow) api.Msg {
	return flow.Next(f, r.id, r.hard, r.commit, r.round)
}

// advance commits what a quorum has; an entry of an earlier term only with one of this term behind it.
func (r *Raft) advance() {
	nodes, reached := []int{r.id}, []int{r.last()}
	for _, f := range r.flows {
		nodes, reached = append(nodes, f.Node), append(reached, f.Match)
	}
	n := quorum.Agreed(r.members(), nodes, reached)
	if n > r.commit && r.current(n) {
		r.commit = n
	}
}

// hear is what a Leader does with an answer of another member: it sends on where there is more, or sends again from further back.
func (r *Raft) hear(m api.Msg, send func(api.Msg)) {
	at := r.flowTo(m.From)
	if at < 0 { // nobody but a Leader has flows
		return
	}
	r.flows[at] = flow.Heard(r.flows[at], m)
	if m.Ok {
		r.advance()
	}
	if !m.Ok || r.flows[at].Next <= r.last() {
		send(r.next(r.flows[at]))
	}
}
