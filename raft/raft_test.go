package raft_test

import (
	"math"
	"slices"
	"testing"

	"glebe/api"
	"glebe/image"
	"glebe/raft"
)

// ends are numbers at the ends of int and of what a number may be.
var ends = []int{math.MinInt, math.MinInt + 1, -top, -1 << 32, -2, -1, 0, 1, 2, 3, 7, 8, 9, 255, 256, 1 << 32, top - 1, top, top + 1, 1 << 60, 1<<61 + 1, math.MaxInt - 1, math.MaxInt}

func of(old ...int) api.Conf { return api.Conf{Old: old} }

func joint(old, new []int) api.Conf { return api.Conf{Old: old, New: new} }

func learning(node int, old ...int) api.Conf { return api.Conf{Old: old, Learners: []int{node}} }

// terms is entries of these terms, each with bytes of its own.
func terms(l ...int) []api.Entry {
	var e []api.Entry
	for i, t := range l {
		e = append(e, api.Entry{Term: t, Kind: plain, Data: []byte{byte(t), byte(i)}})
	}
	return e
}

// tells is an entry that tells members.
func tells(term int, c api.Conf) api.Entry {
	return api.Entry{Term: term, Kind: joins, Data: members(c)}
}

func logOf(base, baseTerm int, e ...api.Entry) api.Log {
	return api.Log{Base: base, BaseTerm: baseTerm, Entries: e}
}

// fresh is a member of {1, 2, 3} in the group 1 that has nothing yet.
func fresh(id int) *raft.Raft { return raft.New(id, api.Hard{Group: 1, Conf: of(1, 2, 3)}, 0) }

// with is a member of {1, 2, 3} in the group 1 in a term, with a log.
func with(id, term int, l api.Log) *raft.Raft {
	return raft.New(id, api.Hard{Group: 1, Term: term, Log: l, Conf: of(1, 2, 3)}, 0)
}

// stands lets a member that has the timeout 10, and heard nothing so far, become a candidate.
func stands(t *testing.T, r *raft.Raft) {
	t.Helper()
	for range 10 {
		if r.Role() != follower {
			t.Fatal("it does not wait")
		}
		r.Tick(0)
	}
	if r.Role() == follower {
		t.Fatal("it does not stand")
	}
}

// leads lets such a member become the leader by the votes of others.
func leads(t *testing.T, r *raft.Raft, others ...int) {
	t.Helper()
	stands(t, r)
	for _, n := range others {
		r.Step(msg(r, votes, n, api.Msg{Ok: true}))
	}
	if r.Role() != leader {
		t.Fatal("it does not lead")
	}
}

// msg is a message of a kind from a node to a member, in its group and its term.
func msg(r *raft.Raft, kind, from int, m api.Msg) api.Msg {
	h := r.Hard()
	m.Kind, m.From, m.Group, m.Term = kind, from, h.Group, h.Term
	return m
}

// inTerm is a message in another term.
func inTerm(term int, m api.Msg) api.Msg {
	m.Term = term
	return m
}

func is(t *testing.T, what string, got, want any) {
	t.Helper()
	if !alike(got, want) {
		t.Errorf("%s: %+v, want %+v", what, got, want)
	}
}

// state holds what a member tells of itself.
func state(t *testing.T, r machine, role, leader, commit int) {
	t.Helper()
	if r.Role() != role || r.Leader() != leader || r.Commit() != commit {
		t.Errorf("the role is %d, the leader %d, the commit %d, want %d, %d, %d", r.Role(), r.Leader(), r.Commit(), role, leader, commit)
	}
}

// silent holds that nothing came of a call.
func silent(t *testing.T, what string, x api.Ready) {
	t.Helper()
	is(t, what, x, api.Ready{})
}

// waits holds that a member becomes a candidate by the n-th tick from now on.
func waits(t *testing.T, what string, r *raft.Raft, n int) {
	t.Helper()
	was := r.Hard().Term
	for i := 1; i <= n+1; i++ {
		r.Tick(0)
		if r.Hard().Term > was {
			if i != n {
				t.Errorf("%s: it stands by the tick %d, want %d", what, i, n)
			}
			return
		}
	}
	t.Errorf("%s: it does not stand within %d ticks", what, n+1)
}

func TestLimits(t *testing.T) {
	if api.Elect != elect || api.Beat != beat || api.Batch != 8 || api.MaxNumber != top || api.MaxNodes != 7 || api.OK != 0 {
		t.Error("the limits are other ones")
	}
	if api.ENoop != noop || api.EOp != plain || api.EConf != joins || api.Follower != follower || api.Candidate != candidate || api.Leader != leader {
		t.Error("the kinds of entries or the roles are other ones")
	}
	if api.MVote != asks || api.MVoted != votes || api.MAppend != appends || api.MAppended != appended || api.MSnap != snaps {
		t.Error("the kinds of messages are other ones")
	}
	if api.CTerm != term || api.CLog != laid || api.CSnap != snapped {
		t.Error("the kinds of changes are other ones")
	}
	if api.ErrRange != errRange || api.ErrForm != errForm || api.ErrBusy != errBusy || api.ErrKind != errKind || api.ErrMany != errMany || api.ErrLeader != errLeader {
		t.Error("the errors are other ones")
	}
}

// The chapter's first table.
func TestExamplesAlone(t *testing.T) {
	r := raft.New(1, api.Hard{Group: 1, Conf: of(1)}, 0)
	for range 9 {
		silent(t, "a tick", r.Tick(0))
	}
	is(t, "the tenth", r.Tick(0), api.Ready{
		Changes: []api.Change{{Kind: term, Group: 1, Term: 1, Voted: 1}, {Kind: laid, Group: 1, From: 1, Log: logOf(0, 0, api.Entry{Term: 1})}},
		Apply:   []api.Entry{{Term: 1}}, First: 1,
	})
	state(t, r, leader, 1, 1)
	seven := api.Entry{Term: 1, Kind: plain, Data: []byte{7}}
	n, x, e := r.Propose(plain, []byte{7})
	is(t, "Propose", came{n, x, e}, came{2, api.Ready{
		Changes: []api.Change{{Kind: laid, Group: 1, From: 2, Log: logOf(0, 0, seven)}}, Apply: []api.Entry{seven}, First: 2,
	}, 0})
	n, x, e = r.Propose(3, nil)
	is(t, "Propose 3", came{n, x, e}, came{E: errKind})
	n, x, e = r.Propose(joins, nil)
	is(t, "Propose EConf of nothing", came{n, x, e}, came{E: errForm})
	n, x, e = r.Read()
	is(t, "Read", came{n, x, e}, came{N: 1})
	if !r.Safe(1) || r.Safe(2) {
		t.Error("Safe")
	}
	x, e = r.Compact(3, nil)
	is(t, "Compact 3", came{0, x, e}, came{E: errRange})
	x, e = r.Compact(2, []byte{9})
	is(t, "Compact 2", came{0, x, e}, came{X: api.Ready{Changes: []api.Change{{Kind: snapped, Group: 1, Log: logOf(2, 1), Conf: of(1), Snap: []byte{9}}}}})
	is(t, "Hard", r.Hard(), api.Hard{Group: 1, Term: 1, Vote: 1, Log: logOf(2, 1), Conf: of(1), Snap: []byte{9}})
}

// The text below it.
func TestExamplesOfThree(t *testing.T) {
	r := fresh(2)
	is(t, "asked by 1", r.Step(api.Msg{Kind: asks, From: 1, Group: 1, Term: 1}), api.Ready{
		Msgs:    []api.Msg{{Kind: votes, From: 2, To: 1, Group: 1, Term: 1, Ok: true}},
		Changes: []api.Change{{Kind: term, Group: 1, Term: 1}, {Kind: term, Group: 1, Term: 1, Voted: 1}},
	})
	is(t, "asked by 3", r.Step(api.Msg{Kind: asks, From: 3, Group: 1, Term: 1}), api.Ready{Msgs: []api.Msg{{Kind: votes, From: 2, To: 3, Group: 1, Term: 1}}})
	silent(t, "asked by 4", r.Step(api.Msg{Kind: asks, From: 4, Group: 1, Term: 1}))
	is(t, "a gap", r.Step(api.Msg{Kind: appends, From: 1, Group: 1, Term: 1, Index: 1, Prev: 1}), api.Ready{Msgs: []api.Msg{{Kind: appended, From: 2, To: 1, Group: 1, Term: 1}}})
}

// P17.1: a new member follows nobody, and what is up to the base is committed and applied.
func TestNew(t *testing.T) {
	for _, base := range []int{0, 1, 9, top - 1, top} {
		for _, id := range []int{1, 2, 5, 7} {
			h := api.Hard{Group: 3, Term: 6, Vote: 2, Log: logOf(base, 5, terms(5, 6)...), Conf: of(1, 2, 3), Snap: []byte{8}}
			r := raft.New(id, h, 4)
			state(t, r, follower, 0, base)
			is(t, "Hard", r.Hard(), h)
			is(t, "Flows", r.Flows(), []api.Flow(nil))
			for _, n := range ends {
				if r.Safe(n) {
					t.Errorf("Safe(%d) of a new member", n)
				}
			}
			_, x, e := r.Read()
			is(t, "Read", came{0, x, e}, came{E: errLeader})
			_, x, e = r.Propose(plain, nil)
			is(t, "Propose", came{0, x, e}, came{E: errLeader})
			x, e = r.Compact(base+1, nil)
			is(t, "Compact", came{0, x, e}, came{E: errRange})
		}
	}
}

// P17.1, P17.2: the draw says how long the member waits, the first time and each time that it stands.
func TestTimeouts(t *testing.T) {
	for _, d := range append([]int{10, 11, 19, 20, -9, -10, -11}, ends...) {
		n := 10 + (d%10+10)%10
		r := raft.New(2, api.Hard{Conf: of(1, 2, 3)}, d)
		waits(t, "the first time", r, n)
		waits(t, "behind a tick with the draw 0", r, 10)
		for range 9 {
			r.Tick(d + 1)
		}
		r.Tick(d)
		if r.Hard().Term != 3 || r.Role() != candidate {
			t.Fatal("the third time")
		}
		waits(t, "behind a tick with the draw", r, n)
	}
}

// P17.1: what was in the log ahead of a new member is applied from the base on.
func TestAppliesFromTheBase(t *testing.T) {
	old := terms(1, 1, 2)
	r := raft.New(1, api.Hard{Term: 2, Log: logOf(5, 1, old...), Conf: of(1)}, 0)
	for range 9 {
		r.Tick(0)
	}
	is(t, "the tenth tick", r.Tick(0), api.Ready{
		Changes: []api.Change{{Kind: term, Term: 3, Voted: 1}, {Kind: laid, From: 9, Log: logOf(0, 0, api.Entry{Term: 3})}},
		Apply:   append(old, api.Entry{Term: 3}), First: 6,
	})
	state(t, r, leader, 1, 9)
}

// P17.2: a candidate votes for itself in the next term, and asks all other voters.
func TestStands(t *testing.T) {
	for _, v := range []struct {
		c  api.Conf
		to []int
	}{
		{of(1, 2, 3), []int{1, 3}}, {of(2, 7), []int{7}}, {joint([]int{1, 2}, []int{2, 4, 5}), []int{1, 4, 5}},
		{joint([]int{1, 3}, []int{2, 3}), []int{1, 3}}, {learning(5, 2, 3), []int{3}}, {joint([]int{2}, []int{1, 2}), []int{1}},
	} {
		h := api.Hard{Group: 4, Term: 6, Vote: 1, Log: logOf(3, 2, terms(4, 5)...), Conf: v.c}
		r := raft.New(2, h, 0)
		r.Step(api.Msg{Kind: appends, From: 3, Group: 4, Term: 6, Index: 3, Prev: 2})
		state(t, r, follower, 3, 3)
		for range 9 {
			silent(t, "a tick", r.Tick(0))
		}
		want := api.Ready{Changes: []api.Change{{Kind: term, Group: 4, Term: 7, Voted: 2}}}
		for _, to := range v.to {
			want.Msgs = append(want.Msgs, api.Msg{Kind: asks, From: 2, To: to, Group: 4, Term: 7, Index: 5, Prev: 5})
		}
		is(t, "the tenth", r.Tick(3), want)
		state(t, r, candidate, 0, 3)
		is(t, "Flows", r.Flows(), []api.Flow(nil))
		h.Term, h.Vote = 7, 2
		is(t, "Hard", r.Hard(), h)
		for range 12 {
			silent(t, "a tick of a candidate", r.Tick(0))
		}
		want.Changes[0].Term = 8
		for i := range want.Msgs {
			want.Msgs[i].Term = 8
		}
		is(t, "once more", r.Tick(0), want)
	}
}

// P17.2: who is no voter does not stand, however long it waits, nor does a member at the greatest term or index.
func TestStandsNot(t *testing.T) {
	e := terms(1)
	for _, v := range []struct {
		id int
		h  api.Hard
		ok bool
	}{
		{4, api.Hard{Conf: of(1, 2, 3)}, false},
		{4, api.Hard{Conf: learning(4, 1, 2, 3)}, false},
		{4, api.Hard{Conf: joint([]int{1, 2, 3}, []int{1, 2, 3, 4})}, true},
		{3, api.Hard{Conf: joint([]int{1, 2, 3}, []int{1, 2})}, true},
		{3, api.Hard{Conf: of(1, 2), Log: logOf(0, 0, tells(1, of(1, 3)))}, true},
		{3, api.Hard{Conf: of(1, 3), Log: logOf(0, 0, tells(1, of(1, 2)))}, false},
		{1, api.Hard{Term: top, Conf: of(1, 2, 3)}, false},
		{1, api.Hard{Term: top - 1, Conf: of(1, 2, 3)}, true},
		{1, api.Hard{Log: logOf(top, 0), Conf: of(1, 2, 3)}, false},
		{1, api.Hard{Log: logOf(top-1, 0, e...), Conf: of(1, 2, 3)}, false},
		{1, api.Hard{Log: logOf(top, 0, e...), Conf: of(1, 2, 3)}, false},
		{1, api.Hard{Log: logOf(top-1, 0), Conf: of(1, 2, 3)}, true},
		{1, api.Hard{Log: logOf(top-2, 0, e...), Conf: of(1, 2, 3)}, true},
		{1, api.Hard{Term: top, Conf: of(1)}, false},
	} {
		r := raft.New(v.id, v.h, 0)
		for range 9 {
			silent(t, "a tick", r.Tick(0))
		}
		r.Tick(0)
		if got := r.Role() != follower; got != v.ok {
			t.Errorf("%d with %+v stands: %v, want %v", v.id, v.h, got, v.ok)
		}
		if !v.ok {
			for range 100 {
				silent(t, "a further tick", r.Tick(0))
			}
			is(t, "Hard", r.Hard(), v.h)
		}
	}
}

// P17.2, P17.3: a candidate leads as soon as those that voted for it are a quorum.
func TestLeads(t *testing.T) {
	r := with(2, 3, logOf(4, 1, terms(2, 3)...))
	stands(t, r)
	want := api.Ready{Changes: []api.Change{{Kind: laid, Group: 1, From: 7, Log: logOf(0, 0, api.Entry{Term: 4})}}}
	for _, to := range []int{1, 3} {
		want.Msgs = append(want.Msgs, api.Msg{Kind: appends, From: 2, To: to, Group: 1, Term: 4, Index: 6, Prev: 3, Commit: 4, Entries: []api.Entry{{Term: 4}}})
	}
	is(t, "a vote", r.Step(msg(r, votes, 3, api.Msg{Ok: true})), want)
	state(t, r, leader, 2, 4)
	is(t, "Flows", r.Flows(), []api.Flow{{Node: 1, Next: 7}, {Node: 3, Next: 7}})
	silent(t, "a further vote", r.Step(msg(r, votes, 1, api.Msg{Ok: true})))
}

// P17.2: learners are sent the log, too, but nobody counts on them.
func TestLeadsLearners(t *testing.T) {
	r := raft.New(2, api.Hard{Conf: api.Conf{Old: []int{2, 4}, Learners: []int{1, 3, 7}}}, 0)
	stands(t, r)
	for _, n := range []int{1, 3, 7} {
		silent(t, "a learner's vote", r.Step(msg(r, votes, n, api.Msg{Ok: true})))
	}
	x := r.Step(msg(r, votes, 4, api.Msg{Ok: true}))
	if len(x.Msgs) != 4 || x.Msgs[0].To != 1 || x.Msgs[1].To != 3 || x.Msgs[2].To != 4 || x.Msgs[3].To != 7 {
		t.Error(x)
	}
	is(t, "Flows", r.Flows(), []api.Flow{{Node: 1, Next: 1}, {Node: 3, Next: 1}, {Node: 4, Next: 1}, {Node: 7, Next: 1}})
	for _, n := range []int{1, 3, 7} {
		r.Step(msg(r, appended, n, api.Msg{Ok: true, Index: 1}))
	}
	state(t, r, leader, 2, 0)
	r.Step(msg(r, appended, 4, api.Msg{Ok: true, Index: 1}))
	state(t, r, leader, 2, 1)
}

// P17.3: while the members are being changed, both the old and the new ones elect, and both commit.
func TestBothElect(t *testing.T) {
	both := joint([]int{1, 2, 3}, []int{3, 4, 5})
	for _, v := range []struct {
		others []int
		ok     bool
	}{{[]int{2}, false}, {[]int{2, 3}, false}, {[]int{3}, false}, {[]int{3, 4}, true}, {[]int{4, 5}, false}, {[]int{4, 5, 2}, true}, {[]int{5, 3}, true}} {
		r := raft.New(1, api.Hard{Conf: of(1), Log: logOf(0, 0, tells(0, both))}, 0)
		stands(t, r)
		for _, n := range v.others {
			r.Step(msg(r, votes, n, api.Msg{Ok: true}))
		}
		if got := r.Role() == leader; got != v.ok {
			t.Errorf("elected by 1 and %v: %v", v.others, got)
		}
		q := raft.New(1, api.Hard{Conf: both}, 0)
		leads(t, q, 2, 3, 4)
		for _, n := range v.others {
			q.Step(msg(q, appended, n, api.Msg{Ok: true, Index: 1}))
		}
		if got := q.Commit() == 1; got != v.ok {
			t.Errorf("committed by 1 and %v: %v", v.others, got)
		}
	}
}

// P17.2: a leader sends on each second tick, whatever the draws are.
func TestBeats(t *testing.T) {
	r := fresh(1)
	leads(t, r, 2)
	for _, d := range ends {
		silent(t, "the first tick", r.Tick(d))
		is(t, "the second", r.Tick(d), api.Ready{Msgs: []api.Msg{
			{Kind: appends, From: 1, To: 2, Group: 1, Term: 1, Entries: []api.Entry{{Term: 1}}},
			{Kind: appends, From: 1, To: 3, Group: 1, Term: 1, Entries: []api.Entry{{Term: 1}}},
		}})
	}
	state(t, r, leader, 1, 0)
	r.Tick(0)
	r.Step(inTerm(2, msg(r, votes, 3, api.Msg{})))
	waits(t, "what it did as a leader is no waiting", r, 10)
	r.Step(msg(r, votes, 3, api.Msg{Ok: true}))
	silent(t, "the first tick of a new leader", r.Tick(0))
	if x := r.Tick(0); len(x.Msgs) != 2 {
		t.Error("the second tick of a new leader", x)
	}
}

// P17.2: what a leader sends by its beat is what each flow's node lacks.
func TestBeatOfFlows(t *testing.T) {
	r := with(1, 1, logOf(2, 1, terms(1, 1, 1, 1, 1, 1, 1, 1, 1)...))
	leads(t, r, 2)
	r.Step(msg(r, appended, 2, api.Msg{Ok: true, Index: 12}))
	r.Step(msg(r, appended, 3, api.Msg{Index: 2}))
	is(t, "Flows", r.Flows(), []api.Flow{{Node: 2, Next: 13, Match: 12}, {Node: 3, Next: 3}})
	r.Tick(0)
	all := r.Hard().Log.Entries
	is(t, "the beat", r.Tick(0), api.Ready{Msgs: []api.Msg{
		{Kind: appends, From: 1, To: 2, Group: 1, Term: 2, Index: 12, Prev: 2, Commit: 12},
		{Kind: appends, From: 1, To: 3, Group: 1, Term: 2, Index: 2, Prev: 1, Commit: 12, Entries: all[:8]},
	}})
}

// P17.3: a member has nothing to do with another group's messages, nor with those of other kinds.
func TestStepsNot(t *testing.T) {
	for _, kind := range append([]int{4, 5, 6, 10, 11, 12, 1<<32 + 1}, ends...) {
		for _, g := range []int{1, 0, 2, -1, 1<<32 + 1} {
			if g == 1 && kind >= asks && kind <= snaps {
				continue
			}
			for _, m := range []api.Msg{{Term: 9}, {Term: 1, Index: 5, Ok: true}, {}} {
				for _, r := range []*raft.Raft{fresh(2), fresh(1)} {
					stands(t, r)
					was := look(r)
					m.Kind, m.From, m.Group = kind, 3, g
					silent(t, "another group or kind", r.Step(m))
					is(t, "the member", look(r), was)
				}
			}
		}
	}
}

// P17.3, 1: who is no voter is not heard, whatever its term is.
func TestAskedByNoVoter(t *testing.T) {
	c := api.Conf{Old: []int{1, 2}, New: []int{2, 3}, Learners: []int{5}}
	for _, from := range append([]int{1, 2, 3, 4, 5, 6, 7, 64, 65, 67}, ends...) {
		for _, term := range []int{4, 5, 6, 1 << 50} {
			r := raft.New(2, api.Hard{Group: 1, Term: 5, Conf: of(4), Log: logOf(0, 0, tells(1, c))}, 0)
			was := look(r)
			x := r.Step(api.Msg{Kind: asks, From: from, Group: 1, Term: term, Index: 9, Prev: 5})
			if from >= 1 && from <= 3 {
				if len(x.Msgs) != 1 || x.Msgs[0].Ok != (term >= 5) {
					t.Errorf("asked by the voter %d: %+v", from, x)
				}
				continue
			}
			silent(t, "asked by a stranger", x)
			is(t, "the member", look(r), was)
		}
	}
}

// P17.3, 2: a message of any kind with a greater term makes a follower of any member, which waits on as long as it has.
func TestGreaterTerm(t *testing.T) {
	for kind := asks; kind <= snaps; kind++ {
		for role := follower; role <= leader; role++ {
			for _, up := range []int{1, 2, 1 << 50} {
				r := fresh(1)
				for role > follower && r.Role() == follower {
					r.Tick(5)
				}
				if role == leader {
					r.Step(msg(r, votes, 3, api.Msg{Ok: true}))
				}
				if r.Role() != role {
					t.Fatal("no such role")
				}
				was := r.Hard().Term
				m := inTerm(was+up, msg(r, kind, 2, api.Msg{Index: -1, Prev: -1}))
				if kind == asks {
					m.Index, m.Prev = 0, -1 // an older log: no vote
				}
				x := r.Step(m)
				if len(x.Changes) != 1 {
					t.Fatal(kind, role, x)
				}
				is(t, "the change", x.Changes[0], api.Change{Kind: term, Group: 1, Term: was + up})
				who := 0
				if kind == appends || kind == snaps {
					who = 2
				}
				state(t, r, follower, who, 0)
				is(t, "Flows", r.Flows(), []api.Flow(nil))
				if h := r.Hard(); h.Term != was+up || h.Vote != 0 {
					t.Error("Hard", h)
				}
			}
		}
	}
}

// P17.3, 2: the greater term alone is no reason to wait anew.
func TestGreaterTermWaitsOn(t *testing.T) {
	for kind := asks; kind <= snaps; kind++ {
		r := with(1, 3, logOf(0, 0, terms(3)...))
		for range 6 {
			r.Tick(0)
		}
		r.Step(api.Msg{Kind: kind, From: 2, Group: 1, Term: 4})
		n := 4
		if kind == appends || kind == snaps {
			n = 10
		}
		waits(t, "behind six ticks", r, n)
	}
}

// P17.3, 3: who is behind is told so, if it asks something.
func TestEarlierTerm(t *testing.T) {
	for kind := asks; kind <= snaps; kind++ {
		for role := follower; role <= leader; role++ {
			for _, down := range []int{1, 5, 6, 1 << 50} {
				r := with(1, 4, logOf(0, 0))
				if role > follower {
					stands(t, r)
				} else {
					r.Step(inTerm(5, msg(r, appends, 3, api.Msg{})))
				}
				if role == leader {
					r.Step(msg(r, votes, 3, api.Msg{Ok: true}))
				}
				was := look(r)
				m := api.Msg{Kind: kind, From: 2, To: 1, Group: 1, Term: 5 - down, Ok: true, Index: 1, Prev: 1, Commit: 1, Round: 7, Entries: terms(5), Data: snapData(of(1), nil)}
				var want api.Ready
				switch kind {
				case asks:
					want.Msgs = []api.Msg{{Kind: votes, From: 1, To: 2, Group: 1, Term: 5}}
				case appends, snaps:
					want.Msgs = []api.Msg{{Kind: appended, From: 1, To: 2, Group: 1, Term: 5}}
				}
				is(t, "the answer", r.Step(m), want)
				is(t, "the member", look(r), was)
			}
		}
	}
}

// P17.3, 4: a vote is given once a term, to whose log is as new, and given again to the same node.
func TestGivesVotes(t *testing.T) {
	l := logOf(4, 2, terms(2, 3)...)
	for _, v := range []struct {
		vote, from, index, prev int
		ok                      bool
	}{
		{0, 1, 6, 3, true}, {0, 1, 7, 3, true}, {0, 1, 1, 4, true}, {0, 1, 5, 3, false}, {0, 1, 9, 2, false},
		{1, 1, 6, 3, true}, {1, 1, 5, 3, false}, {3, 1, 6, 3, false}, {2, 1, 6, 3, false}, {3, 3, 6, 3, true}, {2, 2, 6, 3, true},
	} {
		r := raft.New(2, api.Hard{Group: 1, Term: 5, Vote: v.vote, Log: l, Conf: of(1, 2, 3)}, 0)
		for range 7 {
			r.Tick(0)
		}
		want := api.Ready{Msgs: []api.Msg{{Kind: votes, From: 2, To: v.from, Group: 1, Term: 5, Ok: v.ok}}}
		vote, n := v.vote, 3
		if v.ok {
			vote, n = v.from, 10
			if v.from != v.vote {
				want.Changes = []api.Change{{Kind: term, Group: 1, Term: 5, Voted: v.from}}
			}
		}
		is(t, "the answer", r.Step(api.Msg{Kind: asks, From: v.from, Group: 1, Term: 5, Index: v.index, Prev: v.prev}), want)
		state(t, r, follower, 0, 4)
		if got := r.Hard().Vote; got != vote {
			t.Errorf("the vote is %d, want %d", got, vote)
		}
		waits(t, "behind seven ticks", r, n)
	}
}

// P17.3, 4: a vote in a later term comes behind the change of the term, and one that is asked for in the term of a leader changes nothing of it.
func TestGivesVotesLater(t *testing.T) {
	r := fresh(2)
	r.Step(api.Msg{Kind: appends, From: 3, Group: 1, Term: 4})
	state(t, r, follower, 3, 0)
	is(t, "asked in the leader's term", r.Step(api.Msg{Kind: asks, From: 1, Group: 1, Term: 4}), api.Ready{
		Msgs: []api.Msg{{Kind: votes, From: 2, To: 1, Group: 1, Term: 4, Ok: true}}, Changes: []api.Change{{Kind: term, Group: 1, Term: 4, Voted: 1}},
	})
	state(t, r, follower, 3, 0)
	is(t, "asked later", r.Step(api.Msg{Kind: asks, From: 3, Group: 1, Term: 6}), api.Ready{
		Msgs:    []api.Msg{{Kind: votes, From: 2, To: 3, Group: 1, Term: 6, Ok: true}},
		Changes: []api.Change{{Kind: term, Group: 1, Term: 6}, {Kind: term, Group: 1, Term: 6, Voted: 3}},
	})
	state(t, r, follower, 0, 0)
	for role := candidate; role <= leader; role++ {
		r := fresh(2)
		stands(t, r)
		if role == leader {
			r.Step(msg(r, votes, 3, api.Msg{Ok: true}))
		}
		is(t, "asked by another one", r.Step(msg(r, asks, 1, api.Msg{Index: 9, Prev: 9})), api.Ready{Msgs: []api.Msg{{Kind: votes, From: 2, To: 1, Group: 1, Term: 1}}})
		if r.Role() != role {
			t.Error("the role is another one")
		}
	}
}

// P17.3, 5: votes count once, in the candidate's term, from voters; one that is refused does not.
func TestCountsVotes(t *testing.T) {
	five := api.Hard{Conf: api.Conf{Old: []int{1, 2, 3, 4, 5}, Learners: []int{6}}}
	r := raft.New(1, five, 0)
	silent(t, "a vote for a follower", r.Step(api.Msg{Kind: votes, From: 2, Ok: true}))
	stands(t, r)
	for _, m := range []api.Msg{
		{From: 2, Ok: true}, {From: 2, Ok: true}, {From: 1, Ok: true}, {From: 6, Ok: true}, {From: 7, Ok: true}, {From: 0, Ok: true}, {From: -1, Ok: true}, {From: 3}, {From: 4},
	} {
		silent(t, "a vote", r.Step(msg(r, votes, m.From, m)))
		silent(t, "a vote of an earlier term", r.Step(api.Msg{Kind: votes, From: 5, Ok: true}))
		state(t, r, candidate, 0, 0)
	}
	r.Step(msg(r, votes, 3, api.Msg{Ok: true})) // though it refused at first
	state(t, r, leader, 1, 0)
	r = raft.New(1, five, 0)
	stands(t, r)
	r.Step(msg(r, votes, 2, api.Msg{Ok: true}))
	waits(t, "a candidate that is not elected", r, 10)
	silent(t, "a vote of the next term", r.Step(msg(r, votes, 3, api.Msg{Ok: true})))
	state(t, r, candidate, 0, 0)
	r.Step(msg(r, votes, 2, api.Msg{Ok: true}))
	state(t, r, leader, 1, 0)
}

// P17.3, 6: a leader's message makes a follower of a candidate, and starts its waiting anew; another leader of the term does not take it.
func TestFollows(t *testing.T) {
	for _, from := range []int{2, 3, 6, 0, -1, 100} {
		r := with(1, 3, logOf(0, 0))
		for range 6 {
			r.Tick(0)
		}
		r.Step(msg(r, appends, from, api.Msg{}))
		state(t, r, follower, from, 0)
		waits(t, "a follower", r, 10)
		state(t, r, candidate, 0, 0)
		r.Step(msg(r, appends, from, api.Msg{Index: 5}))
		state(t, r, follower, from, 0)
		r.Step(msg(r, votes, 2, api.Msg{Ok: true}))
		r.Step(msg(r, votes, 3, api.Msg{Ok: true}))
		state(t, r, follower, from, 0)
	}
	r := fresh(1)
	leads(t, r, 2)
	was := look(r)
	silent(t, "another leader", r.Step(msg(r, appends, 2, api.Msg{Entries: terms(1), Commit: 1})))
	silent(t, "another leader's snapshot", r.Step(msg(r, snaps, 2, api.Msg{Index: 9, Data: snapData(of(2), nil)})))
	is(t, "the member", look(r), was)
}

// P17.3, 6: the cases of a leader's entries.
func TestAppends(t *testing.T) {
	l := logOf(4, 2, terms(2, 3, 3)...) // 5, 6, 7
	h := api.Hard{Group: 1, Term: 5, Log: l, Conf: of(1, 2, 3)}
	e := l.Entries
	for _, v := range []struct {
		index, prev, commit int
		e                   []api.Entry
		ok                  bool
		at                  int // of the answer; -1: none
		from                int // of the change; 0: none
		now                 int // the commit index
	}{
		// below the base
		{3, 2, 9, terms(5), true, 4, 0, 4}, {0, 0, 9, nil, true, 4, 0, 4}, {-1, 2, 9, nil, true, 4, 0, 4}, {math.MinInt, 2, 9, nil, true, 4, 0, 4},
		// no such index
		{8, 3, 9, terms(5), false, 7, 0, 4}, {9, 3, 9, nil, false, 7, 0, 4}, {math.MaxInt, 3, 9, terms(5), false, 7, 0, 4},
		// another term there
		{7, 2, 9, terms(5), false, 6, 0, 4}, {6, 2, 9, nil, false, 5, 0, 4}, {5, 3, 9, nil, false, 4, 0, 4}, {4, 3, 9, terms(5), false, 3, 0, 4}, {4, 0, 9, nil, false, 3, 0, 4},
		// nothing to append
		{7, 3, 0, nil, true, 7, 0, 4}, {4, 2, 3, nil, true, 4, 0, 4}, {4, 2, 9, terms(2), true, 5, 0, 5}, {4, 2, 9, terms(2, 3), true, 6, 0, 6}, {5, 2, 9, terms(3), true, 6, 0, 6},
		{4, 2, 9, nil, true, 4, 0, 4}, {6, 3, 9, nil, true, 6, 0, 6}, {6, 3, 5, nil, true, 6, 0, 5}, {7, 3, math.MaxInt, nil, true, 7, 0, 7}, {7, 3, math.MinInt, nil, true, 7, 0, 4},
		// entries behind the last one
		{7, 3, 0, terms(5), true, 8, 8, 4}, {7, 3, 7, terms(5, 5), true, 9, 8, 7}, {6, 3, 9, terms(3, 5), true, 8, 8, 8}, {4, 2, 9, terms(2, 3, 3, 5), true, 8, 8, 8},
		// entries in place of others
		{6, 3, 9, terms(5), true, 7, 7, 7}, {4, 2, 5, terms(2, 5), true, 6, 6, 5}, {4, 2, 9, terms(1), true, 5, 5, 5}, {5, 2, 6, terms(4, 4, 5), true, 8, 6, 6}, {4, 2, 9, terms(3, 3, 3), true, 7, 5, 7},
	} {
		r := raft.New(2, h, 0)
		x := r.Step(api.Msg{Kind: appends, From: 3, Group: 1, Term: 5, Index: v.index, Prev: v.prev, Commit: v.commit, Round: 6, Entries: v.e})
		want := api.Ready{Msgs: []api.Msg{{Kind: appended, From: 2, To: 3, Group: 1, Term: 5, Ok: v.ok, Index: v.at, Round: 6}}}
		all := e
		if v.from > 0 {
			put := v.e[v.from-v.index-1:]
			want.Changes = []api.Change{{Kind: laid, Group: 1, From: v.from, Log: logOf(0, 0, put...)}}
			all = append(append([]api.Entry(nil), e[:v.from-5]...), put...)
		}
		if v.now > 4 {
			want.Apply, want.First = all[:v.now-4], 5
		}
		is(t, "the answer", x, want)
		state(t, r, follower, 3, v.now)
		is(t, "the log", r.Hard().Log, logOf(4, 2, all...))
	}
}

// P17.3, 6: a message may have more entries than a leader sends at once.
func TestAppendsMany(t *testing.T) {
	l := slices.Repeat([]int{3}, 200)
	for _, n := range []int{8, 9, 20, 200} {
		r := with(2, 5, logOf(4, 2, terms(3, 3)...))
		e := terms(l[:n]...)
		x := r.Step(msg(r, appends, 1, api.Msg{Index: 4, Prev: 2, Commit: 9 + n, Entries: e}))
		is(t, "what came of it", x, api.Ready{
			Msgs:    []api.Msg{{Kind: appended, From: 2, To: 1, Group: 1, Term: 5, Ok: true, Index: 4 + n}},
			Changes: []api.Change{{Kind: laid, Group: 1, From: 7, Log: logOf(0, 0, e[2:]...)}}, Apply: e, First: 5,
		})
		is(t, "the log", r.Hard().Log, logOf(4, 2, e...))
	}
}

// P17.3: whom a message is sent to, and what its kind has no field for, does not count.
func TestStepsWhateverElseItSays(t *testing.T) {
	for _, to := range append([]int{4, 5, 100}, ends...) {
		r := fresh(2)
		x := r.Step(api.Msg{Kind: asks, From: 1, To: to, Group: 1, Term: 1, Commit: to, Round: to, Txn: to, Part: to, Ballot: to, Value: to, Seq: to, Ok: true, Entries: terms(1), Data: []byte{1}})
		is(t, "asked", x.Msgs, []api.Msg{{Kind: votes, From: 2, To: 1, Group: 1, Term: 1, Ok: true}})
		x = r.Step(api.Msg{Kind: appends, From: 1, To: to, Group: 1, Term: 1, Txn: to, Part: to, Ballot: to, Value: to, Seq: to, Ok: true, Entries: terms(1), Data: []byte{1}})
		is(t, "sent entries", x.Msgs, []api.Msg{{Kind: appended, From: 2, To: 1, Group: 1, Term: 1, Ok: true, Index: 1}})
		x = r.Step(api.Msg{Kind: snaps, From: 1, To: to, Group: 1, Term: 1, Index: 9, Prev: 1, Commit: to, Txn: to, Part: to, Ballot: to, Value: to, Seq: to, Entries: terms(1), Data: snapData(of(1, 2, 3), nil)})
		is(t, "sent a snapshot", x.Msgs, []api.Msg{{Kind: appended, From: 2, To: 1, Group: 1, Term: 1, Ok: true, Index: 9}})
		stands(t, r)
		x = r.Step(api.Msg{Kind: votes, From: 1, To: to, Group: 1, Term: 2, Index: to, Prev: to, Commit: to, Round: to, Ok: true, Entries: terms(1), Data: []byte{1}})
		is(t, "elected", len(x.Msgs), 2)
		x = r.Step(api.Msg{Kind: appended, From: 1, To: to, Group: 1, Term: 2, Index: 10, Prev: to, Commit: to, Ok: true, Entries: terms(1), Data: []byte{1}})
		is(t, "it has it", x, api.Ready{Apply: []api.Entry{{Term: 2}}, First: 10})
	}
}

// P17.3, 6: an index of 0 and a wrong term there tells 0, and no less.
func TestAppendsAtNought(t *testing.T) {
	r := with(2, 5, logOf(0, 0, terms(5)...))
	is(t, "a wrong term at 0", r.Step(msg(r, appends, 1, api.Msg{Prev: 3, Round: 2})).Msgs, []api.Msg{{Kind: appended, From: 2, To: 1, Group: 1, Term: 5, Round: 2}})
	is(t, "a wrong term at 1", r.Step(msg(r, appends, 1, api.Msg{Index: 1, Prev: 3})).Msgs, []api.Msg{{Kind: appended, From: 2, To: 1, Group: 1, Term: 5}})
	is(t, "an index far behind", r.Step(msg(r, appends, 1, api.Msg{Index: 9, Prev: 3})).Msgs, []api.Msg{{Kind: appended, From: 2, To: 1, Group: 1, Term: 5, Index: 1}})
}

// P17.3, 6: what is committed is not replaced, nor told to be; it is applied once.
func TestAppendsKeepWhatIsCommitted(t *testing.T) {
	l := logOf(4, 2, terms(2, 3, 3)...)
	for _, v := range []struct {
		index, prev int
		e           []api.Entry
		ok          bool
	}{
		{4, 2, terms(5), false}, {4, 2, terms(2, 5), false}, {5, 2, terms(5, 3), false}, {5, 2, terms(4, 4, 4), false},
		{4, 2, terms(2, 3, 5), true}, {6, 3, terms(5), true}, {4, 2, terms(2, 3), true}, {4, 2, nil, true},
	} {
		r := raft.New(2, api.Hard{Group: 1, Term: 5, Log: l, Conf: of(1, 2, 3)}, 0)
		r.Step(msg(r, appends, 3, api.Msg{Index: 6, Prev: 3, Commit: 6}))
		for range 9 {
			r.Tick(0)
		}
		x := r.Step(msg(r, appends, 1, api.Msg{Index: v.index, Prev: v.prev, Entries: v.e, Commit: 6}))
		if !v.ok {
			silent(t, "against what is committed", x)
			is(t, "the log", r.Hard().Log, l)
		} else if len(x.Msgs) != 1 || !x.Msgs[0].Ok || len(x.Apply) > 0 || x.First != 0 {
			t.Error(x)
		}
		state(t, r, follower, 1, 6)
		waits(t, "it was heard all the same", r, 10)
	}
}

// P17.3, 6: the commit index does not fall, and goes no further than what the leader's message tells.
func TestCommitOfAFollower(t *testing.T) {
	r := with(2, 1, logOf(0, 0, terms(1, 1, 1, 1)...))
	e := terms(1, 1, 1, 1)
	for _, v := range []struct{ index, commit, now int }{{2, 9, 2}, {1, 9, 2}, {4, 1, 2}, {4, 3, 3}, {4, 3, 3}, {0, 0, 3}, {4, 9, 4}, {4, -9, 4}} {
		was := r.Commit()
		prev := 1
		if v.index == 0 {
			prev = 0
		}
		x := r.Step(msg(r, appends, 1, api.Msg{Index: v.index, Prev: prev, Commit: v.commit}))
		first := 0
		if v.now > was {
			first = was + 1
		}
		is(t, "what is applied", api.Ready{Apply: x.Apply, First: x.First}, api.Ready{Apply: e[was:v.now], First: first})
		state(t, r, follower, 1, v.now)
	}
}

// P17.3, 7: a leader commits what a quorum has, and sends on; it sends again what does not fit.
func TestAppended(t *testing.T) {
	r := with(1, 1, logOf(2, 1, terms(1, 1)...)) // 3, 4, and 5 of its own term
	leads(t, r, 2)
	e := r.Hard().Log.Entries
	is(t, "Flows", r.Flows(), []api.Flow{{Node: 2, Next: 5}, {Node: 3, Next: 5}})
	is(t, "it does not fit", r.Step(msg(r, appended, 3, api.Msg{Index: 3})), api.Ready{
		Msgs: []api.Msg{{Kind: appends, From: 1, To: 3, Group: 1, Term: 2, Index: 3, Prev: 1, Commit: 2, Entries: e[1:]}},
	})
	is(t, "an entry of an earlier term", r.Step(msg(r, appended, 3, api.Msg{Ok: true, Index: 4})), api.Ready{
		Msgs: []api.Msg{{Kind: appends, From: 1, To: 3, Group: 1, Term: 2, Index: 4, Prev: 1, Commit: 2, Entries: e[2:]}},
	})
	state(t, r, leader, 1, 2)
	is(t, "an entry of this term", r.Step(msg(r, appended, 3, api.Msg{Ok: true, Index: 5})), api.Ready{Apply: e, First: 3})
	state(t, r, leader, 1, 5)
	silent(t, "the other one has all, too", r.Step(msg(r, appended, 2, api.Msg{Ok: true, Index: 5, Round: 4})))
	is(t, "Flows", r.Flows(), []api.Flow{{Node: 2, Next: 6, Match: 5, Round: 4}, {Node: 3, Next: 6, Match: 5}})
	is(t, "it does not fit, though it did", r.Step(msg(r, appended, 3, api.Msg{Index: 9})), api.Ready{
		Msgs: []api.Msg{{Kind: appends, From: 1, To: 3, Group: 1, Term: 2, Index: 5, Prev: 2, Commit: 5}},
	})
	is(t, "the other one lacks all", r.Step(msg(r, appended, 2, api.Msg{})), api.Ready{
		Msgs: []api.Msg{{Kind: appends, From: 1, To: 2, Group: 1, Term: 2, Index: 5, Prev: 2, Commit: 5}},
	})
	was := look(r)
	for _, n := range []int{1, 4, 0, -1, 1 << 40} {
		silent(t, "from no other member", r.Step(msg(r, appended, n, api.Msg{Ok: true, Index: 9})))
		silent(t, "from no other member", r.Step(msg(r, appended, n, api.Msg{Index: 1})))
	}
	is(t, "the member", look(r), was)
}

// P17.3, 7, P17.5: an entry of a term that is not the leader's is not committed on its own, nor read behind, even if its term is a later one.
func TestEntriesOfLaterTerms(t *testing.T) {
	r := with(1, 1, logOf(2, 6, terms(5, 6)...))
	leads(t, r, 2)
	for _, index := range []int{3, 4} {
		r.Step(msg(r, appended, 2, api.Msg{Ok: true, Index: index}))
		state(t, r, leader, 1, 2)
	}
	if _, _, e := r.Read(); e != errBusy {
		t.Error("Read", e)
	}
	r.Step(msg(r, appended, 2, api.Msg{Ok: true, Index: 5}))
	state(t, r, leader, 1, 5)
}

// P17.3, 7: only a leader hears such answers.
func TestAppendedToOthers(t *testing.T) {
	for role := follower; role <= candidate; role++ {
		r := with(1, 3, logOf(0, 0, terms(3)...))
		if role == candidate {
			stands(t, r)
		}
		was := look(r)
		silent(t, "Ok", r.Step(msg(r, appended, 2, api.Msg{Ok: true, Index: 1})))
		silent(t, "not Ok", r.Step(msg(r, appended, 2, api.Msg{Index: 1})))
		is(t, "the member", look(r), was)
	}
	r := fresh(1)
	leads(t, r, 2)
	r.Step(inTerm(2, msg(r, votes, 2, api.Msg{})))
	silent(t, "a leader no more", r.Step(msg(r, appended, 2, api.Msg{})))
}

// P17.3, 7: a member ahead of the base is sent the snapshot.
func TestAppendedAheadOfTheBase(t *testing.T) {
	h := api.Hard{Group: 1, Term: 1, Log: logOf(4, 1, terms(1)...), Conf: learning(4, 1, 2, 3), Snap: []byte{5, 6}}
	r := raft.New(1, h, 0)
	leads(t, r, 3)
	is(t, "it does not fit", r.Step(msg(r, appended, 4, api.Msg{Index: 0, Round: 9})), api.Ready{Msgs: []api.Msg{
		{Kind: snaps, From: 1, To: 4, Group: 1, Term: 2, Index: 4, Prev: 1, Data: snapData(h.Conf, h.Snap)},
	}})
}

// P17.3, 8: a snapshot takes the place of the log, but for entries that go on from it.
func TestSnapshots(t *testing.T) {
	l := logOf(4, 2, terms(2, 3, 3)...)
	for _, v := range []struct {
		index, prev int
		left        []api.Entry
	}{{5, 2, l.Entries[1:]}, {6, 3, l.Entries[2:]}, {7, 3, nil}, {6, 2, nil}, {5, 3, nil}, {7, 5, nil}, {8, 3, nil}, {100, 5, nil}, {top, 5, nil}} {
		r := raft.New(2, api.Hard{Group: 1, Term: 5, Vote: 3, Log: l, Conf: of(1, 2, 3), Snap: []byte{1}}, 0)
		for range 7 {
			r.Tick(0)
		}
		c := joint([]int{1, 3}, []int{2, 6})
		x := r.Step(msg(r, snaps, 3, api.Msg{Index: v.index, Prev: v.prev, Round: 8, Data: snapData(c, []byte{7, 7})}))
		is(t, "what came of it", x, api.Ready{
			Msgs:    []api.Msg{{Kind: appended, From: 2, To: 3, Group: 1, Term: 5, Ok: true, Index: v.index, Round: 8}},
			Changes: []api.Change{{Kind: snapped, Group: 1, Log: logOf(v.index, v.prev), Conf: c, Snap: []byte{7, 7}}},
			Restore: true,
		})
		state(t, r, follower, 3, v.index)
		is(t, "Hard", r.Hard(), api.Hard{Group: 1, Term: 5, Vote: 3, Log: logOf(v.index, v.prev, v.left...), Conf: c, Snap: []byte{7, 7}})
		is(t, "once more", r.Step(msg(r, snaps, 3, api.Msg{Index: v.index, Prev: v.prev, Round: 9, Data: snapData(c, []byte{7, 7})})), api.Ready{
			Msgs: []api.Msg{{Kind: appended, From: 2, To: 3, Group: 1, Term: 5, Ok: true, Index: v.index, Round: 9}},
		})
		if v.index < top {
			waits(t, "behind seven ticks", r, 10)
		}
	}
}

// P17.3, 8: a snapshot of what is committed already is answered by what is.
func TestSnapshotsOfThePast(t *testing.T) {
	for _, index := range []int{math.MinInt, -1, 0, 3, 4, 5, 6} {
		r := raft.New(2, api.Hard{Group: 1, Term: 5, Log: logOf(4, 2, terms(2, 3, 3)...), Conf: of(1, 2, 3), Snap: []byte{1}}, 0)
		r.Step(msg(r, appends, 1, api.Msg{Index: 6, Prev: 3, Commit: 6}))
		was := r.Hard()
		for _, data := range [][]byte{nil, {1}, snapData(of(1, 2), []byte{9})} {
			is(t, "the answer", r.Step(msg(r, snaps, 3, api.Msg{Index: index, Prev: 9, Round: 4, Data: data})), api.Ready{
				Msgs: []api.Msg{{Kind: appended, From: 2, To: 3, Group: 1, Term: 5, Ok: true, Index: 6, Round: 4}},
			})
			state(t, r, follower, 3, 6)
			is(t, "Hard", r.Hard(), was)
		}
	}
}

// P17.3, 8: bytes that are no members and a snapshot change nothing, but that the leader was heard.
func TestSnapshotsOfNoBytes(t *testing.T) {
	good := snapData(of(1, 2), []byte{9})
	bad := [][]byte{
		append(append([]byte(nil), good...), 0), append(append([]byte(nil), good...), blob(nil)...), blob(nil), append(blob(nil), blob(nil)...),
		blob(members(of(1, 2))), append(blob([]byte{9}), blob(members(of(1, 2)))...), members(of(1, 2)),
		snapData(api.Conf{}, nil), snapData(of(2, 1), nil), snapData(of(8), nil), snapData(learning(1, 1), nil), append(blob(append(members(of(1)), 0)), blob(nil)...),
	}
	for i := range good {
		bad = append(bad, good[:i])
	}
	for _, data := range bad {
		r := with(2, 5, logOf(4, 2, terms(2)...))
		stands(t, r)
		was := r.Hard()
		silent(t, "no bytes", r.Step(msg(r, snaps, 3, api.Msg{Index: 9, Prev: 5, Data: data})))
		state(t, r, follower, 3, 4)
		is(t, "Hard", r.Hard(), was)
		waits(t, "it was heard all the same", r, 10)
	}
	for _, snap := range [][]byte{nil, {}, {0}, good} {
		r := with(2, 5, logOf(4, 2, terms(2)...))
		if x := r.Step(msg(r, snaps, 3, api.Msg{Index: 9, Prev: 5, Data: snapData(of(1, 2), snap)})); !x.Restore {
			t.Error("no snapshot", snap)
		}
		is(t, "the snapshot", r.Hard().Snap, snap)
	}
}

// P17.4: each error, and the one that goes ahead of the others.
func TestProposeErrors(t *testing.T) {
	good, bad := members(of(1, 2)), members(of(2, 1))
	full := with(1, 1, logOf(top-1, 1))
	leads(t, full, 2) // by the entry at the greatest index
	some := fresh(1)
	leads(t, some, 2)
	stood := fresh(1)
	stands(t, stood)
	for _, v := range []struct {
		r    *raft.Raft
		kind int
		data []byte
		e    api.Errno
	}{
		{stood, plain, nil, errLeader}, {stood, 3, nil, errLeader}, {stood, joins, bad, errLeader}, {fresh(1), plain, nil, errLeader},
		{full, noop, nil, errKind}, {full, 3, good, errKind}, {full, joins, bad, errForm}, {full, joins, nil, errForm}, {full, plain, nil, errMany}, {full, joins, good, errMany},
		{some, noop, nil, errKind}, {some, noop, good, errKind}, {some, -1, nil, errKind}, {some, 1<<32 + 1, nil, errKind}, {some, joins, good[:len(good)-1], errForm},
		{some, joins, append(members(of(1)), 0), errForm}, {some, joins, members(api.Conf{}), errForm}, {some, joins, members(of(8)), errForm}, {some, math.MaxInt, nil, errKind},
	} {
		was := look(v.r)
		n, x, e := v.r.Propose(v.kind, v.data)
		is(t, "Propose", came{n, x, e}, came{E: v.e})
		is(t, "the member", look(v.r), was)
	}
	if last := len(full.Hard().Log.Entries) + full.Hard().Log.Base; last != top {
		t.Error("the last index is", last)
	}
	before := with(1, 1, logOf(top-2, 1))
	leads(t, before, 2)
	if n, _, e := before.Propose(plain, nil); n != top || e != 0 {
		t.Error("the greatest index is one, too", n, e)
	}
}

// P17.4: an entry is laid, sent with what else the others lack, and committed once a quorum has it.
func TestProposes(t *testing.T) {
	r := fresh(1)
	leads(t, r, 2)
	r.Step(msg(r, appended, 3, api.Msg{Ok: true, Index: 1}))
	e := []api.Entry{{Term: 1}, {Term: 1, Kind: plain, Data: []byte("ab")}, {Term: 1, Kind: plain}}
	n, x, no := r.Propose(plain, []byte("ab"))
	is(t, "Propose", came{n, x, no}, came{2, api.Ready{
		Changes: []api.Change{{Kind: laid, Group: 1, From: 2, Log: logOf(0, 0, e[1])}},
		Msgs: []api.Msg{
			{Kind: appends, From: 1, To: 2, Group: 1, Term: 1, Commit: 1, Entries: e[:2]},
			{Kind: appends, From: 1, To: 3, Group: 1, Term: 1, Index: 1, Prev: 1, Commit: 1, Entries: e[1:2]},
		},
	}, 0})
	n, x, no = r.Propose(plain, nil)
	is(t, "Propose", came{n, x, no}, came{3, api.Ready{
		Changes: []api.Change{{Kind: laid, Group: 1, From: 3, Log: logOf(0, 0, e[2])}},
		Msgs: []api.Msg{
			{Kind: appends, From: 1, To: 2, Group: 1, Term: 1, Commit: 1, Entries: e},
			{Kind: appends, From: 1, To: 3, Group: 1, Term: 1, Index: 1, Prev: 1, Commit: 1, Entries: e[1:]},
		},
	}, 0})
	is(t, "the log", r.Hard().Log, logOf(0, 0, e...))
	is(t, "an answer", r.Step(msg(r, appended, 2, api.Msg{Ok: true, Index: 3})), api.Ready{Apply: e[1:], First: 2})
}

// P17.4: members that are proposed count from their entry on, and the flows with them.
func TestProposesMembers(t *testing.T) {
	r := raft.New(2, api.Hard{Group: 1, Conf: of(1, 2, 3)}, 0)
	leads(t, r, 3)
	r.Step(msg(r, appended, 3, api.Msg{Ok: true, Index: 1, Round: 2}))
	r.Step(msg(r, appended, 1, api.Msg{Index: 0}))
	first, second := api.Flow{Node: 1, Next: 1}, api.Flow{Node: 3, Next: 2, Match: 1, Round: 2}
	is(t, "Flows", r.Flows(), []api.Flow{first, second})
	_, x, _ := r.Propose(joins, members(learning(7, 1, 2, 3)))
	is(t, "Flows", r.Flows(), []api.Flow{first, second, {Node: 7, Next: 2}})
	if len(x.Msgs) != 3 || x.Msgs[2].To != 7 || x.Msgs[2].Index != 1 || len(x.Msgs[2].Entries) != 1 {
		t.Error(x)
	}
	r.Propose(joins, members(joint([]int{1, 3}, []int{5, 6})))
	is(t, "Flows", r.Flows(), []api.Flow{first, second, {Node: 5, Next: 3}, {Node: 6, Next: 3}})
	silent(t, "of no member any more", r.Step(msg(r, appended, 7, api.Msg{Ok: true, Index: 1})))
	r.Propose(plain, nil)
	r.Propose(joins, members(joint([]int{2, 4}, []int{3, 4, 7})))
	is(t, "Flows", r.Flows(), []api.Flow{second, {Node: 4, Next: 5}, {Node: 7, Next: 5}})
	for _, n := range []int{4, 3} {
		r.Step(msg(r, appended, n, api.Msg{Ok: true, Index: 5}))
	}
	state(t, r, leader, 2, 5)
	r.Propose(plain, members(of(1)))
	is(t, "an entry of another kind tells no members", len(r.Flows()), 3)
}

// P17.4, and the end of each call: a leader that is no voter leads until that is committed, and no longer.
func TestLeaderGoes(t *testing.T) {
	r := fresh(1)
	leads(t, r, 2)
	r.Step(msg(r, appended, 2, api.Msg{Ok: true, Index: 1}))
	r.Propose(joins, members(of(2, 3)))
	r.Tick(0)
	is(t, "its beat", len(r.Tick(0).Msgs), 2)
	r.Step(msg(r, appended, 2, api.Msg{Ok: true, Index: 2}))
	state(t, r, leader, 1, 1)
	if n, _, e := r.Read(); n != 1 || e != 0 {
		t.Error("Read", n, e)
	}
	r.Propose(plain, nil)
	x := r.Step(msg(r, appended, 3, api.Msg{Ok: true, Index: 2}))
	is(t, "the last thing it sends", x, api.Ready{
		Msgs:  []api.Msg{{Kind: appends, From: 1, To: 3, Group: 1, Term: 1, Index: 2, Prev: 1, Commit: 2, Round: 1, Entries: []api.Entry{{Term: 1, Kind: plain}}}},
		Apply: []api.Entry{tells(1, of(2, 3))}, First: 2,
	})
	state(t, r, follower, 0, 2)
	is(t, "Flows", r.Flows(), []api.Flow(nil))
	for range 50 {
		silent(t, "a tick", r.Tick(0))
	}
	is(t, "a read", r.Safe(1), false)
}

// P17.5, and the end of each call: a leader that went and comes back counts its rounds on.
func TestRoundsGoOn(t *testing.T) {
	r := raft.New(1, api.Hard{Conf: of(1)}, 0)
	leads(t, r)
	r.Read()
	r.Read()
	r.Propose(joins, members(of(2)))
	r.Step(msg(r, appended, 2, api.Msg{Ok: true, Index: 2}))
	state(t, r, follower, 0, 2)
	r.Step(inTerm(5, msg(r, appends, 2, api.Msg{Index: 2, Prev: 1, Entries: []api.Entry{tells(5, of(1))}})))
	leads(t, r)
	if n, _, e := r.Read(); n != 3 || e != 0 || !r.Safe(3) || r.Safe(4) {
		t.Error("Read", n, e)
	}
}

// The end of each call: a leader that was made a learner goes, too; one that is in New alone stays.
func TestLeaderBecomesALearner(t *testing.T) {
	for _, v := range []struct {
		c    api.Conf
		role int
	}{{learning(1, 2), follower}, {joint([]int{2}, []int{1}), leader}, {joint([]int{1, 2}, []int{2}), leader}} {
		r := raft.New(1, api.Hard{Conf: of(1)}, 0)
		leads(t, r)
		r.Propose(joins, members(v.c))
		state(t, r, leader, 1, 1)
		r.Step(msg(r, appended, 2, api.Msg{Ok: true, Index: 2}))
		if r.Role() != v.role || r.Commit() != 2 {
			t.Errorf("%+v: the role is %d, the commit %d", v.c, r.Role(), r.Commit())
		}
	}
}

// P17.5: a round is safe once a quorum has answered it or a later one; each error.
func TestReads(t *testing.T) {
	r := raft.New(1, api.Hard{Group: 1, Term: 1, Log: logOf(2, 1, terms(1)...), Conf: api.Conf{Old: []int{1, 2, 3}, Learners: []int{4}}}, 0)
	n, x, e := r.Read()
	is(t, "Read of a follower", came{n, x, e}, came{E: errLeader})
	stands(t, r)
	n, x, e = r.Read()
	is(t, "Read of a candidate", came{n, x, e}, came{E: errLeader})
	r.Step(msg(r, votes, 2, api.Msg{Ok: true}))
	n, x, e = r.Read()
	is(t, "Read ahead of the term's first commit", came{n, x, e}, came{E: errBusy})
	r.Step(msg(r, appended, 2, api.Msg{Ok: true, Index: 4}))
	own := api.Entry{Term: 2}
	for round := 1; round <= 3; round++ {
		n, x, e = r.Read()
		is(t, "Read", came{n, x, e}, came{round, api.Ready{Msgs: []api.Msg{
			{Kind: appends, From: 1, To: 2, Group: 1, Term: 2, Index: 4, Prev: 2, Commit: 4, Round: round},
			{Kind: appends, From: 1, To: 3, Group: 1, Term: 2, Index: 3, Prev: 1, Commit: 4, Round: round, Entries: []api.Entry{own}},
			{Kind: appends, From: 1, To: 4, Group: 1, Term: 2, Index: 3, Prev: 1, Commit: 4, Round: round, Entries: []api.Entry{own}},
		}}, 0})
	}
	safe := func(upto int) {
		t.Helper()
		for _, n := range append([]int{4, 5}, ends...) {
			if got := r.Safe(n); got != (n >= 1 && n <= upto) {
				t.Errorf("Safe(%d) = %v, want all up to %d", n, got, upto)
			}
		}
	}
	safe(0)
	r.Step(msg(r, appended, 4, api.Msg{Ok: true, Index: 4, Round: 3}))
	safe(0)
	r.Step(msg(r, appended, 3, api.Msg{Index: 3, Round: 3}))
	safe(0)
	r.Step(msg(r, appended, 3, api.Msg{Ok: true, Round: 1}))
	safe(1)
	r.Step(msg(r, appended, 2, api.Msg{Ok: true, Round: 2}))
	safe(2)
	r.Step(msg(r, appended, 2, api.Msg{Ok: true, Round: 9}))
	safe(3)
	r.Tick(0)
	is(t, "the round of a beat", r.Tick(0).Msgs[0].Round, 3)
	r.Step(inTerm(3, msg(r, votes, 2, api.Msg{})))
	safe(0)
	leads(t, r, 3)
	safe(0)
	r.Step(msg(r, appended, 3, api.Msg{Ok: true, Index: 5}))
	if n, _, e := r.Read(); n != 4 || e != 0 {
		t.Error("the rounds go on", n, e)
	}
}

// P17.5: while the members are being changed, both the old and the new ones answer a round.
func TestReadsOfBoth(t *testing.T) {
	r := raft.New(1, api.Hard{Conf: joint([]int{1, 2, 3}, []int{3, 4, 5})}, 0)
	leads(t, r, 2, 3, 4)
	for _, n := range []int{2, 3, 4} {
		r.Step(msg(r, appended, n, api.Msg{Ok: true, Index: 1}))
	}
	r.Read()
	for _, v := range []struct {
		from int
		ok   bool
	}{{2, false}, {4, false}, {5, true}} {
		r.Step(msg(r, appended, v.from, api.Msg{Ok: true, Round: 1}))
		if r.Safe(1) != v.ok {
			t.Errorf("answered by 1 up to %d: %v", v.from, !v.ok)
		}
	}
}

// P17.5: a leader reads at once at a base of its own term, and alone.
func TestReadsAtTheBase(t *testing.T) {
	r := raft.New(1, api.Hard{Conf: of(1)}, 0)
	leads(t, r)
	r.Compact(1, nil)
	n, x, e := r.Read()
	is(t, "Read", came{n, x, e}, came{N: 1})
	if !r.Safe(1) || r.Safe(0) || r.Safe(2) {
		t.Error("Safe")
	}
}

// P17.6: each index, the members that count there, and what remains of the log.
func TestCompacts(t *testing.T) {
	a, b, c := learning(4, 1, 2), joint([]int{1, 2}, []int{1, 2, 4}), of(1, 2, 4)
	bad := api.Entry{Term: 3, Kind: joins, Data: members(of(2, 1))}
	other := api.Entry{Term: 3, Kind: plain, Data: members(of(7))}
	l := logOf(4, 2, terms(2)[0], tells(2, a), other, tells(3, b), bad, tells(3, c)) // 5 to 10
	at := map[int]api.Conf{5: of(1, 2), 6: a, 7: a, 8: b, 9: b, 10: c}
	for commit := 4; commit <= 10; commit++ {
		for _, index := range append([]int{4, 5, 6, 10, 11}, ends...) {
			h := api.Hard{Group: 1, Term: 3, Vote: 2, Log: l, Conf: of(1, 2), Snap: []byte{1}}
			r := raft.New(2, h, 0)
			r.Step(msg(r, appends, 1, api.Msg{Index: 10, Prev: 3, Commit: commit}))
			x, e := r.Compact(index, []byte{6, 6})
			if index <= 4 || index > commit {
				is(t, "Compact", came{0, x, e}, came{E: errRange})
				is(t, "Hard", r.Hard(), h)
				continue
			}
			term := l.Entries[index-5].Term
			is(t, "Compact", came{0, x, e}, came{X: api.Ready{Changes: []api.Change{{Kind: snapped, Group: 1, Log: logOf(index, term), Conf: at[index], Snap: []byte{6, 6}}}}})
			is(t, "Hard", r.Hard(), api.Hard{Group: 1, Term: 3, Vote: 2, Log: logOf(index, term, l.Entries[index-4:]...), Conf: at[index], Snap: []byte{6, 6}})
			state(t, r, follower, 1, commit)
			x, e = r.Compact(index, nil)
			is(t, "once more", came{0, x, e}, came{E: errRange})
		}
	}
}

// P17.6: a leader and a candidate compact, too, and go on.
func TestCompactsInAnyRole(t *testing.T) {
	r := with(1, 1, logOf(0, 0, terms(1, 1, 1)...))
	r.Step(msg(r, appends, 2, api.Msg{Index: 3, Prev: 1, Commit: 2}))
	stands(t, r)
	if _, e := r.Compact(1, nil); e != 0 || r.Role() != candidate {
		t.Error("a candidate", e)
	}
	r.Step(msg(r, votes, 2, api.Msg{Ok: true}))
	if x, e := r.Compact(2, nil); e != 0 || r.Role() != leader || len(x.Msgs) > 0 {
		t.Error("a leader", e)
	}
	is(t, "Flows", r.Flows(), []api.Flow{{Node: 2, Next: 4}, {Node: 3, Next: 4}})
	x := r.Step(msg(r, appended, 3, api.Msg{Ok: true, Index: 4}))
	is(t, "Apply", api.Ready{Apply: x.Apply, First: x.First}, api.Ready{Apply: []api.Entry{terms(1, 1, 1)[2], {Term: 2}}, First: 3})
	_, e := r.Compact(4, []byte{3})
	n, _, no := r.Propose(plain, nil)
	if e != 0 || n != 5 || no != 0 {
		t.Error("behind the base", n, e, no)
	}
	is(t, "the log", r.Hard().Log, logOf(4, 2, api.Entry{Term: 2, Kind: plain}))
}

// P17.10: a member that is created anew from its Hard does not forget its vote, its term or its log.
func TestCreatedAnew(t *testing.T) {
	r := fresh(2)
	x := r.Step(api.Msg{Kind: asks, From: 1, Group: 1, Term: 1})
	y := r.Step(api.Msg{Kind: appends, From: 1, Group: 1, Term: 1, Entries: terms(1, 1), Commit: 1})
	was := api.Image{Hards: []api.Hard{{Group: 1, Conf: of(1, 2, 3)}}}
	for _, c := range append(x.Changes, y.Changes...) {
		was, _ = image.Apply(was, c)
	}
	is(t, "the image", was.Hards[0], r.Hard())
	again := raft.New(2, was.Hards[0], 0)
	state(t, again, follower, 0, 0)
	is(t, "asked by another one", again.Step(api.Msg{Kind: asks, From: 3, Group: 1, Term: 1, Index: 9, Prev: 9}), api.Ready{Msgs: []api.Msg{{Kind: votes, From: 2, To: 3, Group: 1, Term: 1}}})
	z := again.Step(api.Msg{Kind: appends, From: 1, Group: 1, Term: 1, Index: 2, Prev: 1, Commit: 2})
	is(t, "what is applied, as it was", api.Ready{Apply: z.Apply, First: z.First}, api.Ready{Apply: terms(1, 1), First: 1})
}
