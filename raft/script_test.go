package raft_test

import (
	"math/bits"
	"math/rand/v2"
	"reflect"
	"slices"
	"testing"

	"glebe/api"
	"glebe/raft"
)

// start is a member as it was created, and what was called since.
type start struct {
	id    int
	h     api.Hard
	draw  int
	calls []call
}

func ticks(n int) []call { return slices.Repeat([]call{{What: tick, N: 4}}, n) }

func steps(l ...api.Msg) []call {
	var out []call
	for _, m := range l {
		m.Group = 1
		out = append(out, call{What: step, M: m})
	}
	return out
}

func proposes(kind int, data []byte) call { return call{What: propose, N: kind, Data: data} }

// starts is members in all roles.
func starts() []start {
	three := api.Hard{Group: 1, Conf: of(1, 2, 3)}
	long := api.Hard{Group: 1, Term: 3, Vote: 2, Log: logOf(4, 1, terms(1, 2, 3, 3)...), Conf: of(1, 2, 3), Snap: []byte{1}}
	vote := func(from, term int) api.Msg { return api.Msg{Kind: votes, From: from, Term: term, Ok: true} }
	has := func(from, term, index int) api.Msg {
		return api.Msg{Kind: appended, From: from, Term: term, Ok: true, Index: index}
	}
	led := append(ticks(10), steps(vote(2, 1))...)
	full := slices.Concat(led, steps(has(3, 1, 1)), []call{proposes(plain, []byte("a")), {What: read}})
	changed := func(c api.Conf) []call { return slices.Concat(full, []call{proposes(joins, members(c))}) }
	learner := api.Hard{Group: 1, Term: 2, Log: logOf(0, 0, tells(1, learning(1, 2, 3))), Conf: of(2, 3)}
	both := api.Hard{Group: 1, Term: 2, Log: logOf(2, 1, tells(1, joint([]int{1, 2}, []int{2, 3, 4})), tells(2, of(2, 3, 4))), Conf: of(1, 2)}
	return []start{
		{1, three, 0, nil}, {1, three, 0, ticks(9)}, {1, three, 0, ticks(10)}, {1, three, 0, led}, {1, three, 0, full},
		{1, three, 0, changed(learning(4, 1, 2, 3))}, {1, three, 0, changed(joint([]int{1, 2, 3}, []int{2, 3}))}, {1, three, 0, changed(of(2, 3))}, {1, three, 0, changed(of(3, 4))},
		{1, three, 0, slices.Concat(full, steps(has(2, 1, 2)), []call{{What: compact, N: 1, Data: []byte("s")}})},
		{2, long, 0, nil}, {1, long, 0, ticks(10)}, {3, long, 0, steps(api.Msg{Kind: appends, From: 2, Term: 3, Index: 7, Prev: 3, Commit: 6})},
		{1, long, 0, append(ticks(10), steps(vote(3, 4))...)},
		{1, learner, 0, ticks(9)}, {1, both, 0, ticks(9)}, {2, both, 0, ticks(10)}, {2, both, 0, append(ticks(10), steps(vote(3, 3))...)},
		{1, api.Hard{Group: 1, Conf: of(1)}, 0, ticks(9)}, {1, api.Hard{Group: 1, Conf: of(1)}, 0, ticks(10)},
		{1, api.Hard{Group: 1, Term: top - 1, Log: logOf(top-1, 3), Conf: of(1, 2)}, 0, ticks(9)},
		{1, api.Hard{Group: 1, Term: top - 1, Log: logOf(top-1, 3), Conf: of(1, 2)}, 0, append(ticks(10), steps(vote(2, top))...)},
	}
}

// around is calls that a member in this state may well be asked.
func around(s *words) []call {
	last, base, term := s.last(), s.h.Log.Base, s.h.Term
	lastTerm, _ := s.termAt(last)
	baseTerm, commit := s.h.Log.BaseTerm, s.commit
	e := []api.Entry{{Term: term, Kind: plain, Data: []byte("x")}, {Term: term, Kind: plain, Data: []byte("y")}}
	calls := []call{
		{What: tick, N: 3}, {What: read}, proposes(plain, []byte("p")), proposes(joins, members(learning(4, 1, 2, 3))), proposes(joins, members(joint([]int{1, 2, 3}, []int{2, 4}))), proposes(joins, members(of(2, 3))),
		proposes(noop, nil), proposes(joins, []byte{1}), {What: compact, N: commit, Data: []byte("c")}, {What: compact, N: base + 1},
	}
	return append(calls, steps(
		api.Msg{Kind: asks, From: 2, Term: term, Index: last, Prev: lastTerm}, api.Msg{Kind: asks, From: 3, Term: term + 1, Index: last, Prev: lastTerm},
		api.Msg{Kind: asks, From: 2, Term: term + 1, Index: base, Prev: baseTerm}, api.Msg{Kind: asks, From: 4, Term: term + 1, Index: last, Prev: term},
		api.Msg{Kind: votes, From: 2, Term: term, Ok: true}, api.Msg{Kind: votes, From: 3, Term: term, Ok: true}, api.Msg{Kind: votes, From: 4, Term: term, Ok: true}, api.Msg{Kind: votes, From: 2, Term: term + 1},
		api.Msg{Kind: appends, From: 2, Term: term, Index: last, Prev: lastTerm, Commit: last, Entries: e[:1]}, api.Msg{Kind: appends, From: 3, Term: term, Index: base, Prev: baseTerm, Commit: base + 1, Entries: e},
		api.Msg{Kind: appends, From: 2, Term: term, Index: last, Prev: lastTerm, Commit: last, Round: 2}, api.Msg{Kind: appends, From: 2, Term: term, Index: last, Prev: lastTerm + 1, Entries: e},
		api.Msg{Kind: appends, From: 2, Term: term + 1, Index: last, Prev: lastTerm, Commit: commit, Entries: []api.Entry{tells(term+1, of(1, 4))}}, api.Msg{Kind: appends, From: 2, Term: term + 1, Index: commit, Prev: term, Commit: top},
		api.Msg{Kind: appends, From: 2, Term: term - 1, Index: last, Prev: lastTerm}, api.Msg{Kind: appends, From: 2, Term: term, Index: base - 1, Entries: e},
		api.Msg{Kind: appended, From: 2, Term: term, Ok: true, Index: last}, api.Msg{Kind: appended, From: 3, Term: term, Ok: true, Index: last, Round: 1}, api.Msg{Kind: appended, From: 4, Term: term, Ok: true, Index: last},
		api.Msg{Kind: appended, From: 2, Term: term, Ok: true, Index: last - 1, Round: 2}, api.Msg{Kind: appended, From: 2, Term: term, Ok: true, Index: last + 1}, api.Msg{Kind: appended, From: 3, Term: term, Index: base - 1},
		api.Msg{Kind: snaps, From: 2, Term: term, Index: last + 2, Prev: term, Data: snapData(joint([]int{1, 2}, []int{2, 3}), []byte("n"))}, api.Msg{Kind: snaps, From: 3, Term: term + 1, Index: last, Prev: lastTerm, Data: snapData(of(1, 2, 3), nil)},
		api.Msg{Kind: snaps, From: 2, Term: term, Index: commit + 1, Prev: lastTerm, Data: snapData(of(2, 3), nil)}, api.Msg{Kind: snaps, From: 2, Term: term, Index: last + 1, Data: []byte{1}},
	)...)
}

// created is a member and what it is by the words, behind some calls.
func created(t *testing.T, v start) (*raft.Raft, *words) {
	t.Helper()
	r, s := raft.New(v.id, v.h, v.draw), newWords(v.id, v.h, v.draw)
	for _, c := range v.calls {
		if got, want := do(r, c), do(s, c); !alike(got, want) {
			t.Fatalf("member %d %+v: %+v = %+v, want %+v", v.id, look(s), c, got, want)
		}
	}
	return r, s
}

// P17.1 to P17.7: every script of three calls out of some forty, behind each start; the third one is one of those that the state behind the second suggests.
func TestShortScripts(t *testing.T) {
	for _, v := range starts() {
		_, s := created(t, v)
		first := around(s)
		for i, a := range first {
			for j, b := range first {
				w := start{v.id, v.h, v.draw, slices.Concat(v.calls, []call{a})}
				r, s := created(t, w)
				follows(t, r, s, b)
				third := around(s)
				for k := range 3 {
					follows(t, r, s, third[(i+5*j+k*13)%len(third)])
				}
			}
		}
	}
}

// someConf is valid members; most of them have the node.
func someConf(r *rand.Rand, id int) api.Conf {
	all := 2 * (1 + r.IntN(127)) // the bit of a node stands for it
	if r.IntN(4) > 0 {
		all &= 30 // among 1 to 4
	}
	if r.IntN(8) > 0 {
		all |= 1 << id
	}
	if all == 0 {
		all = 2
	}
	c := api.Conf{Old: list(all)}
	rest := 254 &^ all
	switch r.IntN(5) {
	case 0:
		c.New = list(2 * (1 + r.IntN(127)))
	case 1:
		c.New = list(all &^ (all & -all))
	case 2:
		c.Learners = list(rest & -rest)
	case 3:
		c.Learners = list(rest & (1 << (1 + r.IntN(7))))
	}
	if bits.OnesCount(uint(all)) == 1 && r.IntN(2) == 0 {
		c.New, c.Learners = nil, nil
	}
	return c
}

// someEntry is an entry of any kind.
func someEntry(r *rand.Rand, id, term int) api.Entry {
	e := api.Entry{Term: term, Kind: plain, Data: []byte{byte(r.IntN(256)), byte(term)}}
	switch r.IntN(10) {
	case 0:
		e.Kind, e.Data = noop, nil
	case 1, 2:
		e = tells(term, someConf(r, id))
	case 3:
		e.Kind, e.Data = joins, members(api.Conf{Old: []int{r.IntN(3), 1}})
	case 4:
		e.Kind, e.Data = r.IntN(5)-1, members(someConf(r, id))
	}
	return e
}

// someHard is a state that a member with this id may be in.
func someHard(r *rand.Rand, id int) api.Hard {
	h := api.Hard{Group: r.IntN(3), Term: r.IntN(6), Vote: r.IntN(4), Conf: someConf(r, id), Snap: []byte{byte(r.IntN(3))}}
	if r.IntN(20) == 0 {
		h.Term = top - r.IntN(3)
	}
	h.Log.Base = []int{0, 0, 0, 4, 9, top - 2, top}[r.IntN(7)]
	h.Log.BaseTerm = r.IntN(min(h.Term, 5) + 1)
	term, latest := h.Log.BaseTerm, h.Term
	if r.IntN(8) == 0 {
		latest += 3
	}
	for range r.IntN(13) {
		if r.IntN(3) == 0 && term < latest {
			term++
		}
		h.Log.Entries = append(h.Log.Entries, someEntry(r, id, term))
	}
	if h.Log.Base == 0 {
		h.Log.BaseTerm = 0
	}
	return h
}

// near is a number about some others, and seldom any.
func near(r *rand.Rand, l ...int) int {
	if r.IntN(60) == 0 {
		return ends[r.IntN(len(ends))]
	}
	return l[r.IntN(len(l))]
}

// someMsg is a message that a member may get, and sometimes any.
func someMsg(r *rand.Rand, s *words) api.Msg {
	last, term := s.last(), s.h.Term
	m := api.Msg{Kind: 1 + r.IntN(5), From: 1 + r.IntN(4), To: s.id, Group: s.h.Group, Term: near(r, term, term, term, term, term, term, term, term+1, term-1), Ok: r.IntN(4) > 0, Round: near(r, 0, s.round, s.round-1, s.round+1)}
	if s.role == candidate && r.IntN(3) == 0 {
		m.Kind = votes
	}
	if s.role == leader && r.IntN(3) > 0 {
		m.Kind, m.Term = appended, term
	}
	if r.IntN(20) == 0 {
		m.Kind, m.Group = near(r, 0, 6, m.Kind), near(r, 0, 1, m.Group)
	}
	if r.IntN(5) == 0 {
		m.From = near(r, 1, 2, 3, 4, 5, 6, 7, 0, 8)
	}
	m.Index = near(r, last, last, last, last, last-1, last-2, s.commit, s.commit+1, s.h.Log.Base, s.h.Log.Base-1, last+1, last+2, last-r.IntN(9))
	m.Prev, _ = s.termAt(m.Index)
	if r.IntN(6) == 0 {
		m.Prev = near(r, term, m.Prev+1, m.Prev-1, 0)
	}
	if r.IntN(10) == 0 {
		m.To, m.Txn, m.Value, m.Seq = near(r, 0, 1, 2, 3, 8), r.IntN(3), r.IntN(3), r.IntN(3)
	}
	switch m.Kind {
	case appends:
		m.Commit = near(r, s.commit, s.commit, s.commit+1, last, last+1, m.Index, 0)
		m.Entries = someEntries(r, s, m.Index)
	case snaps:
		m.Index = min(m.Index, 1<<62) // so that the indexes behind it are numbers, too
		m.Data = snapData(someConf(r, s.id), []byte{byte(r.IntN(256))})
		switch r.IntN(12) {
		case 0:
			m.Data = m.Data[:r.IntN(len(m.Data))]
		case 1:
			m.Data = append(m.Data, make([]byte, r.IntN(10))...)
		case 2:
			m.Data = snapData(api.Conf{Old: []int{r.IntN(3), 1}}, nil)
		}
		if r.IntN(3) > 0 { // not too often
			m.Kind, m.Data = appends, nil
		}
	}
	return m
}

// someEntries is entries behind an index: some of those that the log has, and others.
func someEntries(r *rand.Rand, s *words, index int) []api.Entry {
	var e []api.Entry
	if index >= s.h.Log.Base && index <= s.last() && r.IntN(2) == 0 {
		there := s.h.Log.Entries[index-s.h.Log.Base:]
		e = append(e, there[:r.IntN(len(there)+1)]...)
	}
	if r.IntN(3) == 0 {
		return e
	}
	for range r.IntN(4) {
		e = append(e, someEntry(r, s.id, near(r, s.h.Term, s.h.Term, s.h.Term-1)))
	}
	return e
}

// someCall is a call of a member.
func someCall(r *rand.Rand, s *words) call {
	switch n := r.IntN(20); {
	case n < 5:
		return call{What: tick, N: r.IntN(30) - 5}
	case n == 5:
		return call{What: read}
	case n == 6:
		return call{What: compact, N: near(r, s.commit, s.commit, s.commit-1, s.h.Log.Base, s.h.Log.Base+1, s.commit+1), Data: []byte{byte(r.IntN(256)), 7}}
	case n < 9:
		return proposes(near(r, plain, plain, noop, 3), []byte{byte(r.IntN(256))})
	case n < 11:
		data := members(someConf(r, s.id))
		if r.IntN(3) == 0 {
			data = members(of(2 + r.IntN(3))) // hardly ever itself
		}
		if r.IntN(5) == 0 {
			data = data[:r.IntN(len(data))]
		}
		return proposes(joins, data)
	case n == 11 && s.role == follower:
		return call{What: tick, N: 1000} // many: see script
	}
	return call{What: step, M: someMsg(r, s)}
}

// script is calls of a member as it goes on; a call with the draw 1000 is as many ticks as it waits for.
func script(t *testing.T, r *rand.Rand, v *raft.Raft, s *words, n int, each func(call)) {
	for range n {
		c := someCall(r, s)
		if c.What != tick || c.N < 1000 {
			each(c)
			continue
		}
		for range 19 {
			if s.role == follower {
				each(call{What: tick, N: r.IntN(10)})
			}
		}
	}
}

// P17.1 to P17.7: long scripts of all sorts.
func TestLongScripts(t *testing.T) {
	rnd := rand.New(rand.NewPCG(17, 1))
	var stood, led, fell, removed, restored, applied int
	for range 3000 {
		id := 1 + rnd.IntN(4)
		if rnd.IntN(10) == 0 {
			id = 1 + rnd.IntN(7)
		}
		h, draw := someHard(rnd, id), rnd.IntN(40)-20
		r, s := raft.New(id, h, draw), newWords(id, h, draw)
		if g, w := look(r), look(s); !alike(g, w) {
			t.Fatalf("New(%d, %+v) = %+v, want %+v", id, h, g, w)
		}
		script(t, rnd, r, s, 60, func(c call) {
			base, done := s.h.Log.Base, s.applied
			follows(t, r, s, c)
			if s.h.Log.Base > base && c.What == step {
				restored++
			}
			applied += min(1, s.applied-done)
		})
		stood, led, fell, removed = stood+s.stood, led+s.led, fell+s.fell, removed+s.removed
	}
	if min(led, fell, restored) < 400 || min(stood, applied) < 3000 || removed < 30 {
		t.Error("the scripts do not reach all:", stood, led, fell, removed, restored, applied)
	}
}

// Nil lists and empty ones are the same.
func TestEmptyLists(t *testing.T) {
	empty := api.Conf{Old: []int{1, 2, 3}, New: []int{}, Learners: []int{}}
	h := api.Hard{Group: 1, Log: api.Log{Entries: []api.Entry{}}, Conf: empty, Snap: []byte{}}
	r, s := raft.New(1, h, 0), newWords(1, api.Hard{Group: 1, Conf: of(1, 2, 3)}, 0)
	for _, c := range slices.Concat(ticks(10), steps(api.Msg{Kind: votes, From: 2, Term: 1, Ok: true, Entries: []api.Entry{}, Data: []byte{}}), []call{proposes(plain, []byte{}), {What: read}}) {
		follows(t, r, s, c)
	}
	e := []api.Entry{{Term: 1, Kind: plain, Data: []byte{}}}
	r, s = raft.New(1, h, 0), newWords(1, h, 0)
	for _, c := range steps(api.Msg{Kind: appends, From: 2, Term: 1, Entries: e, Commit: 1}, api.Msg{Kind: appends, From: 2, Term: 1, Index: 1, Prev: 1, Entries: []api.Entry{}, Commit: 1}) {
		follows(t, r, s, c)
	}
	follows(t, r, s, call{What: compact, N: 1, Data: []byte{}})
}

// R4: the same calls have the same results, whatever other members do in between.
func TestAnswersRecur(t *testing.T) {
	rnd := rand.New(rand.NewPCG(17, 2))
	for range 300 {
		id := 1 + rnd.IntN(3)
		h, draw := someHard(rnd, id), rnd.IntN(10)
		r, s := raft.New(id, h, draw), newWords(id, h, draw)
		var calls []call
		var all []came
		script(t, rnd, r, s, 40, func(c call) {
			calls = append(calls, c)
			all = append(all, do(r, c))
			do(s, c)
		})
		again, other := raft.New(id, h, draw), raft.New(id, h, draw)
		for i, c := range calls {
			do(other, calls[len(calls)-1-i])
			if got := do(again, c); !reflect.DeepEqual(got, all[i]) {
				t.Fatalf("%+v = %+v the second time, %+v the first", c, got, all[i])
			}
		}
		if !reflect.DeepEqual(look(r), look(again)) {
			t.Fatal("another member the second time")
		}
	}
}
