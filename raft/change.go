package raft

import (
	"bytes"
	"slices"

	"glebe/api"
	"glebe/image"
	"glebe/rlog"
)

// outcome is a Ready that is being filled; its methods are handed to whatever changes the member or sends for it.
type outcome api.Ready

func (o *outcome) change(c api.Change) { o.Changes = append(o.Changes, c) }

func (o *outcome) send(m api.Msg) { o.Msgs = append(o.Msgs, m) }

// enter makes a term the member's, with the vote that it gives in it.
func (r *Raft) enter(term, voted int, change func(api.Change)) {
	r.hard.Term, r.hard.Vote = term, voted
	change(api.Change{Kind: api.CTerm, Group: r.hard.Group, Term: term, Voted: voted})
}

// lay replaces the log's entries from an index on; those handed in are the log's from then on.
func (r *Raft) lay(from int, entries []api.Entry, change func(api.Change)) {
	kept := r.hard.Log.Entries[:from-r.hard.Log.Base-1]
	r.hard.Log.Entries = append(kept, entries...)
	laid := api.Log{Entries: rlog.Slice(r.hard.Log, from, len(entries))}
	change(api.Change{Kind: api.CLog, Group: r.hard.Group, From: from, Log: laid})
}

// rebase gives the log another base, with the members and the snapshot there.
func (r *Raft) rebase(base api.Log, members api.Conf, snap []byte, change func(api.Change)) {
	c := api.Change{Kind: api.CSnap, Group: r.hard.Group, Log: base, Conf: members, Snap: snap}
	// What remains of the log is left to image: so it can't be another thing than what is read back from a disk.
	if x, e := image.Apply(api.Image{Hards: []api.Hard{r.hard}}, c); e == api.OK {
		r.hard = x.Hards[0]
		change(c)
	}
}

// own is a copy of a state that shares no memory with it.
func own(h api.Hard) api.Hard {
	h.Log, _ = rlog.Append(h.Log, h.Log.Base, nil) // appending nothing answers the same log anew
	h.Conf = api.Conf{Old: slices.Clone(h.Conf.Old), New: slices.Clone(h.Conf.New), Learners: slices.Clone(h.Conf.Learners)}
	h.Snap = bytes.Clone(h.Snap)
	return h
}
