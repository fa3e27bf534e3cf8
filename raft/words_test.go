package raft_test

import (
	"encoding/binary"
	"math/bits"
	"reflect"
	"slices"
	"testing"

	"glebe/api"
	"glebe/flow"
	"glebe/image"
	"glebe/raft"
	"glebe/rlog"
	"glebe/vote"
)

// The document's numbers, held against api's by TestLimits.
const (
	top   = 1 << 40
	elect = 10
	beat  = 2

	noop, plain, joins = 0, 1, 2 // ENoop, EOp, EConf

	follower, candidate, leader = 0, 1, 2

	asks, votes, appends, appended, snaps = 1, 2, 3, 4, 5 // MVote to MSnap

	term, laid, snapped = 1, 2, 3 // CTerm, CLog, CSnap

	errRange, errForm, errBusy, errKind, errMany, errLeader = 3, 4, 11, 13, 17, 30
)

// machine is what the chapter asks of a member.
type machine interface {
	Tick(draw int) api.Ready
	Step(m api.Msg) api.Ready
	Propose(kind int, data []byte) (int, api.Ready, api.Errno)
	Read() (int, api.Ready, api.Errno)
	Safe(round int) bool
	Compact(index int, snap []byte) (api.Ready, api.Errno)
	Role() int
	Leader() int
	Commit() int
	Hard() api.Hard
	Flows() []api.Flow
}

// The chapter's functions, with these very signatures.
var (
	_ func(int, api.Hard, int) *raft.Raft = raft.New
	_ machine                             = (*raft.Raft)(nil)
	_ machine                             = (*words)(nil)
)

// words is a member by the words of the chapter: each change is made by image.Apply.
type words struct {
	id                        int
	h                         api.Hard
	commit, applied           int
	role, leader              int
	elapsed, timeout          int
	granted                   map[int]int
	flows                     []api.Flow
	round, beat               int
	sent                      []api.Msg
	changed                   []api.Change
	restored                  bool
	stood, led, fell, removed int // how often, for tests that ask whether they reach all that
}

func newWords(id int, h api.Hard, draw int) *words {
	return &words{id: id, h: h, commit: h.Log.Base, applied: h.Log.Base, timeout: elect + (draw%elect+elect)%elect}
}

// set is the mask of a list of nodes.
func set(lists ...[]int) int {
	m := 0
	for _, l := range lists {
		for _, n := range l {
			if n >= 0 && n < 63 {
				m |= 1 << n
			}
		}
	}
	return m
}

// list is the nodes of a mask, ascending.
func list(m int) []int {
	var l []int
	for ; m > 0; m &= m - 1 {
		l = append(l, bits.TrailingZeros(uint(m)))
	}
	return l
}

func in(n, m int) bool { return n >= 0 && n < 63 && m>>n&1 == 1 }

// won follows chapter 10 for valid members.
func won(c api.Conf, yes int) bool {
	for _, l := range [][]int{c.Old, c.New} {
		if len(l) > 0 && 2*bits.OnesCount(uint(set(l)&yes)) <= len(l) {
			return false
		}
	}
	return true
}

// conf is the members of the last entry that tells any, found from the first entry on.
func (s *words) conf() (api.Conf, int) { return newest(s.h) }

func newest(h api.Hard) (api.Conf, int) {
	c, at := h.Conf, h.Log.Base
	for i, e := range h.Log.Entries {
		if told, no := image.GetConf(e.Data); e.Kind == joins && no == 0 {
			c, at = told, h.Log.Base+1+i
		}
	}
	return c, at
}

func (s *words) voters() int {
	c, _ := s.conf()
	return set(c.Old, c.New)
}

func (s *words) last() int { return s.h.Log.Base + len(s.h.Log.Entries) }

func (s *words) entry(i int) api.Entry { return s.h.Log.Entries[i-s.h.Log.Base-1] }

// termAt is the term at an index of the log, and whether it has that index.
func (s *words) termAt(i int) (int, bool) {
	switch {
	case i < s.h.Log.Base || i > s.last():
		return 0, false
	case i == s.h.Log.Base:
		return s.h.Log.BaseTerm, true
	}
	return s.entry(i).Term, true
}

func (s *words) send(m api.Msg) {
	m.From, m.Group, m.Term = s.id, s.h.Group, s.h.Term
	s.sent = append(s.sent, m)
}

func (s *words) change(c api.Change) {
	c.Group = s.h.Group
	x, e := image.Apply(api.Image{Hards: []api.Hard{s.h}}, c)
	if e != 0 {
		panic("a change that is none")
	}
	s.h = x.Hards[0]
	s.changed = append(s.changed, c)
}

// done is the end of a call, and what came of it.
func (s *words) done() api.Ready {
	x := api.Ready{Msgs: s.sent, Changes: s.changed, Restore: s.restored}
	s.sent, s.changed, s.restored = nil, nil, false
	if _, at := s.conf(); s.role == leader && !in(s.id, s.voters()) && at <= s.commit {
		s.role, s.leader = follower, 0
		s.removed++
	}
	for i := s.applied; i < s.commit; i++ {
		x.First = s.applied + 1
		x.Apply = append(x.Apply, s.entry(i+1))
	}
	s.applied = s.commit
	return x
}

func (s *words) replicate() {
	for _, f := range s.flows {
		s.sent = append(s.sent, flow.Next(f, s.id, s.h, s.commit, s.round))
	}
}

func (s *words) add(kind int, data []byte) int {
	last := s.last()
	s.change(api.Change{Kind: laid, From: last + 1, Log: api.Log{Entries: []api.Entry{{Term: s.h.Term, Kind: kind, Data: data}}}})
	if kind == joins {
		s.reflow(last)
	}
	return last + 1
}

// reflow removes the flows of nodes that are not members, and adds those that are missing.
func (s *words) reflow(last int) {
	c, _ := s.conf()
	all := set(c.Old, c.New, c.Learners) &^ (1 << s.id)
	s.flows = slices.DeleteFunc(slices.Clone(s.flows), func(f api.Flow) bool { return !in(f.Node, all) })
	for _, f := range s.flows {
		all &^= 1 << f.Node
	}
	for _, n := range list(all) {
		s.flows = append(s.flows, flow.New(n, last))
	}
	slices.SortFunc(s.flows, func(a, b api.Flow) int { return a.Node - b.Node })
}

// advance finds the greatest index that a quorum has, by asking for each that anybody has.
func (s *words) advance() {
	c, _ := s.conf()
	n := 0
	reached := map[int]int{s.id: s.last()}
	for _, f := range s.flows {
		reached[f.Node] = f.Match
	}
	for _, i := range reached {
		yes := 0
		for node, far := range reached {
			if far >= i {
				yes |= 1 << node
			}
		}
		if won(c, yes) {
			n = max(n, i)
		}
	}
	if t, ok := s.termAt(n); n > s.commit && ok && t == s.h.Term {
		s.commit = n
	}
}

func (s *words) lead() {
	s.led++
	s.role, s.leader, s.beat, s.flows = leader, s.id, 0, nil
	s.reflow(s.last())
	s.add(noop, nil)
	s.replicate()
	s.advance()
}

func (s *words) Tick(draw int) api.Ready {
	if s.role == leader {
		s.beat++
		if s.beat == beat {
			s.beat = 0
			s.replicate()
		}
		return s.done()
	}
	s.elapsed++
	if s.elapsed < s.timeout || !in(s.id, s.voters()) || s.h.Term >= top || s.last() >= top {
		return s.done()
	}
	s.stood++
	s.change(api.Change{Kind: term, Term: s.h.Term + 1, Voted: s.id})
	s.role, s.leader, s.elapsed, s.timeout = candidate, 0, 0, vote.Timeout(draw)
	s.granted = map[int]int{s.id: 1}
	c, _ := s.conf()
	if won(c, 1<<s.id) {
		s.lead()
	} else {
		s.sent = append(s.sent, vote.Asks(s.id, s.h.Group, s.h.Term, s.h.Log, c)...)
	}
	return s.done()
}

func (s *words) Step(m api.Msg) api.Ready {
	if m.Group != s.h.Group || !slices.Contains([]int{asks, votes, appends, appended, snaps}, m.Kind) {
		return s.done()
	}
	if m.Kind == asks && !in(m.From, s.voters()) {
		return s.done()
	}
	if m.Term > s.h.Term {
		s.change(api.Change{Kind: term, Term: m.Term})
		if s.role != follower {
			s.fell++
		}
		s.role, s.leader = follower, 0
	}
	if m.Term < s.h.Term {
		switch m.Kind {
		case asks:
			s.send(api.Msg{Kind: votes, To: m.From})
		case appends, snaps:
			s.send(api.Msg{Kind: appended, To: m.From})
		}
		return s.done()
	}
	switch m.Kind {
	case asks:
		s.stepVote(m)
	case votes:
		s.stepVoted(m)
	case appends:
		s.stepAppend(m)
	case appended:
		s.stepAppended(m)
	case snaps:
		s.stepSnap(m)
	}
	return s.done()
}

func (s *words) stepVote(m api.Msg) {
	if !vote.Grants(s.h.Term, s.h.Vote, s.h.Log, m) {
		s.send(api.Msg{Kind: votes, To: m.From})
		return
	}
	if s.h.Vote != m.From {
		s.change(api.Change{Kind: term, Term: s.h.Term, Voted: m.From})
	}
	s.elapsed = 0
	s.send(api.Msg{Kind: votes, To: m.From, Ok: true})
}

func (s *words) stepVoted(m api.Msg) {
	if s.role != candidate || !m.Ok || !in(m.From, s.voters()) || s.granted[m.From] == 1 {
		return
	}
	s.granted[m.From] = 1
	yes := 0
	for node := range s.granted {
		yes |= 1 << node
	}
	if c, _ := s.conf(); won(c, yes) {
		s.lead()
	}
}

func (s *words) stepAppend(m api.Msg) {
	if s.role == leader {
		return
	}
	s.role, s.leader, s.elapsed = follower, m.From, 0
	if m.Index < s.h.Log.Base {
		s.send(api.Msg{Kind: appended, To: m.From, Ok: true, Index: s.commit, Round: m.Round})
		return
	}
	if t, ok := s.termAt(m.Index); !ok || t != m.Prev {
		s.send(api.Msg{Kind: appended, To: m.From, Index: max(min(s.last(), m.Index-1), 0), Round: m.Round})
		return
	}
	log, first := rlog.Append(s.h.Log, m.Index, m.Entries)
	if first > 0 && first <= s.commit {
		return
	}
	if first > 0 {
		last, _ := rlog.Last(log)
		s.change(api.Change{Kind: laid, From: first, Log: api.Log{Entries: rlog.Slice(log, first, last)}})
	}
	n := m.Index + len(m.Entries)
	s.commit = max(s.commit, min(m.Commit, n))
	s.send(api.Msg{Kind: appended, To: m.From, Ok: true, Index: n, Round: m.Round})
}

func (s *words) stepAppended(m api.Msg) {
	for i, f := range s.flows {
		if s.role != leader || f.Node != m.From {
			continue
		}
		s.flows[i] = flow.Heard(f, m)
		if m.Ok {
			s.advance()
		}
		if !m.Ok || s.flows[i].Next <= s.last() {
			s.sent = append(s.sent, flow.Next(s.flows[i], s.id, s.h, s.commit, s.round))
		}
	}
}

func (s *words) stepSnap(m api.Msg) {
	if s.role == leader {
		return
	}
	s.role, s.leader, s.elapsed = follower, m.From, 0
	if m.Index <= s.commit {
		s.send(api.Msg{Kind: appended, To: m.From, Ok: true, Index: s.commit, Round: m.Round})
		return
	}
	two, ok := strings(m.Data)
	if !ok || len(two) != 2 {
		return
	}
	c, e := image.GetConf(two[0])
	if e != 0 {
		return
	}
	s.change(api.Change{Kind: snapped, Log: api.Log{Base: m.Index, BaseTerm: m.Prev}, Conf: c, Snap: two[1]})
	s.commit, s.applied, s.restored = m.Index, m.Index, true
	s.send(api.Msg{Kind: appended, To: m.From, Ok: true, Index: m.Index, Round: m.Round})
}

// strings is the byte strings that bytes consist of, by the definition of chapter 2.
func strings(b []byte) ([][]byte, bool) {
	var l [][]byte
	for len(b) > 0 {
		if len(b) < 8 {
			return nil, false
		}
		n := binary.BigEndian.Uint64(b)
		b = b[8:]
		if n > uint64(len(b)) {
			return nil, false
		}
		l = append(l, b[:n])
		b = b[n:]
	}
	return l, true
}

// blob is a byte string by the definition of chapter 2.
func blob(b []byte) []byte {
	return append(binary.BigEndian.AppendUint64(nil, uint64(len(b))), b...)
}

// members is the encoding of members by the definitions of the chapters 2 and 13.
func members(c api.Conf) []byte {
	var b []byte
	for _, l := range [][]int{c.Old, c.New, c.Learners} {
		b = binary.BigEndian.AppendUint64(b, uint64(len(l)))
		for _, n := range l {
			b = binary.BigEndian.AppendUint64(b, uint64(n))
		}
	}
	return b
}

// snapData is what an MSnap has as its Data.
func snapData(c api.Conf, snap []byte) []byte { return append(blob(members(c)), blob(snap)...) }

func (s *words) Propose(kind int, data []byte) (int, api.Ready, api.Errno) {
	if s.role != leader {
		return 0, api.Ready{}, errLeader
	}
	if kind != plain && kind != joins {
		return 0, api.Ready{}, errKind
	}
	if _, e := image.GetConf(data); kind == joins && e != 0 {
		return 0, api.Ready{}, errForm
	}
	if s.last() >= top {
		return 0, api.Ready{}, errMany
	}
	n := s.add(kind, data)
	s.replicate()
	s.advance()
	return n, s.done(), 0
}

func (s *words) Read() (int, api.Ready, api.Errno) {
	if s.role != leader {
		return 0, api.Ready{}, errLeader
	}
	if t, _ := s.termAt(s.commit); t != s.h.Term {
		return 0, api.Ready{}, errBusy
	}
	s.round++
	s.replicate()
	x := api.Ready{Msgs: s.sent}
	s.sent = nil
	return s.round, x, 0
}

func (s *words) Safe(round int) bool {
	if s.role != leader || round < 1 || round > s.round {
		return false
	}
	yes := 1 << s.id
	for _, f := range s.flows {
		if f.Round >= round {
			yes |= 1 << f.Node
		}
	}
	c, _ := s.conf()
	return won(c, yes)
}

func (s *words) Compact(index int, snap []byte) (api.Ready, api.Errno) {
	if index <= s.h.Log.Base || index > s.applied {
		return api.Ready{}, errRange
	}
	c := s.h.Conf
	for i := s.h.Log.Base + 1; i <= index; i++ {
		if told, e := image.GetConf(s.entry(i).Data); s.entry(i).Kind == joins && e == 0 {
			c = told
		}
	}
	cut, _ := rlog.Cut(s.h.Log, index)
	s.change(api.Change{Kind: snapped, Log: api.Log{Base: index, BaseTerm: cut.BaseTerm}, Conf: c, Snap: snap})
	if !alike(s.h.Log, cut) {
		panic("Cut and CSnap are at odds")
	}
	return s.done(), 0
}

func (s *words) Role() int      { return s.role }
func (s *words) Leader() int    { return s.leader }
func (s *words) Commit() int    { return s.commit }
func (s *words) Hard() api.Hard { return s.h }

func (s *words) Flows() []api.Flow {
	if s.role != leader {
		return nil
	}
	return slices.Clone(s.flows)
}

// alike reports whether two values of a type say the same; a nil list and an empty one do.
func alike(a, b any) bool { return alikeValues(reflect.ValueOf(a), reflect.ValueOf(b)) }

func alikeValues(a, b reflect.Value) bool {
	if a.Type() != b.Type() {
		return false
	}
	switch a.Kind() {
	case reflect.Slice:
		if a.Len() != b.Len() {
			return false
		}
		for i := range a.Len() {
			if !alikeValues(a.Index(i), b.Index(i)) {
				return false
			}
		}
		return true
	case reflect.Struct:
		for i := range a.NumField() {
			if !alikeValues(a.Field(i), b.Field(i)) {
				return false
			}
		}
		return true
	}
	return a.Equal(b)
}

// The calls of a script.
const (
	tick = iota
	step
	propose
	read
	compact
)

// call is a call of a member: N is the draw, the kind or the index.
type call struct {
	What, N int
	M       api.Msg
	Data    []byte
}

// came is what came of a call: the index or the round, and the error, if it answers any.
type came struct {
	N int
	X api.Ready
	E api.Errno
}

func do(r machine, c call) came {
	var a came
	switch c.What {
	case tick:
		a.X = r.Tick(c.N)
	case step:
		a.X = r.Step(c.M)
	case propose:
		a.N, a.X, a.E = r.Propose(c.N, c.Data)
	case read:
		a.N, a.X, a.E = r.Read()
	case compact:
		a.X, a.E = r.Compact(c.N, c.Data)
	}
	return a
}

// view is what a member tells of itself.
type view struct {
	Role, Leader, Commit int
	Hard                 api.Hard
	Flows                []api.Flow
	Safe                 [8]bool
}

func look(r machine) view {
	v := view{Role: r.Role(), Leader: r.Leader(), Commit: r.Commit(), Hard: r.Hard(), Flows: r.Flows()}
	for i := range v.Safe {
		v.Safe[i] = r.Safe(i - 1)
	}
	return v
}

// follows holds that a member does in a call what the words say.
func follows(t *testing.T, r *raft.Raft, s *words, c call) {
	t.Helper()
	was := look(s)
	got, want := do(r, c), do(s, c)
	if !alike(got, want) {
		t.Fatalf("member %d %+v:\n%+v =\n%+v, want\n%+v", s.id, was, c, got, want)
	}
	if g, w := look(r), look(s); !alike(g, w) {
		t.Fatalf("member %d %+v behind\n%+v:\n%+v, want\n%+v", s.id, was, c, g, w)
	}
}
