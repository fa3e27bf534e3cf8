package raft_test

import (
	"math"
	"math/rand/v2"
	"reflect"
	"slices"
	"testing"

	"glebe/api"
	"glebe/raft"
)

// fill makes a value say what no test says.
func fill(v reflect.Value) {
	switch v.Kind() {
	case reflect.Int:
		v.SetInt(77)
	case reflect.Uint8:
		v.SetUint(77)
	case reflect.Bool:
		v.SetBool(true)
	case reflect.Slice:
		v.Set(reflect.MakeSlice(v.Type(), 1, 1))
		fill(v.Index(0))
	case reflect.Struct:
		for i := range v.NumField() {
			fill(v.Field(i))
		}
	}
}

// roomy is a copy of a value, all lists of which have filled memory behind their ends.
func roomy[T any](x T) T {
	var copied func(v reflect.Value)
	copied = func(v reflect.Value) {
		switch v.Kind() {
		case reflect.Slice:
			n := v.Len()
			l := reflect.MakeSlice(v.Type(), n+3, n+3)
			for i := range n + 3 {
				if i < n {
					l.Index(i).Set(v.Index(i))
					copied(l.Index(i))
				} else {
					fill(l.Index(i))
				}
			}
			v.Set(l.Slice(0, n))
		case reflect.Struct:
			for i := range v.NumField() {
				copied(v.Field(i))
			}
		}
	}
	copied(reflect.ValueOf(&x).Elem())
	return x
}

// whole reports whether a value that roomy has made is as roomy makes it, with what is behind the ends of its lists.
func whole(got, fresh reflect.Value) bool {
	switch got.Kind() {
	case reflect.Slice:
		if got.Len() != fresh.Len() || got.Cap() != fresh.Cap() {
			return false
		}
		a, b := got.Slice(0, got.Cap()), fresh.Slice(0, fresh.Cap())
		for i := range a.Len() {
			if !whole(a.Index(i), b.Index(i)) {
				return false
			}
		}
	case reflect.Struct:
		for i := range got.NumField() {
			if !whole(got.Field(i), fresh.Field(i)) {
				return false
			}
		}
	default:
		return got.Equal(fresh)
	}
	return true
}

// stays holds that an argument is as it was, by a copy of it that is made anew.
func stays[T any](t *testing.T, what string, got, was T) {
	t.Helper()
	if !whole(reflect.ValueOf(got), reflect.ValueOf(roomy(was))) {
		t.Fatalf("%s: %+v, it was %+v", what, got, was)
	}
}

// scribble writes over all lists of a value, with what is behind their ends.
func scribble(v reflect.Value) {
	switch v.Kind() {
	case reflect.Slice:
		all := v.Slice(0, v.Cap())
		for i := range all.Len() {
			scribble(all.Index(i))
			fill(all.Index(i))
		}
	case reflect.Struct:
		for i := range v.NumField() {
			scribble(v.Field(i))
		}
	}
}

// span is memory from an address on, ahead of another.
type span struct{ from, to uintptr }

// memory is where the lists of a value lie, with the room behind their ends.
func memory(v reflect.Value) []span {
	var l []span
	switch v.Kind() {
	case reflect.Slice:
		if n := uintptr(v.Cap()) * v.Type().Elem().Size(); n > 0 {
			l = append(l, span{v.Pointer(), v.Pointer() + n})
		}
		for i := range v.Len() {
			l = append(l, memory(v.Index(i))...)
		}
	case reflect.Struct:
		for i := range v.NumField() {
			l = append(l, memory(v.Field(i))...)
		}
	}
	return l
}

// apart reports whether no two of some values, and no two lists of one of them, share memory.
func apart(l ...any) bool {
	var all []span
	for _, x := range l {
		all = append(all, memory(reflect.ValueOf(x))...)
	}
	slices.SortFunc(all, func(a, b span) int {
		if a.from < b.from {
			return -1
		}
		return 1
	})
	for i := 1; i < len(all); i++ {
		if all[i].from < all[i-1].to {
			return false
		}
	}
	return true
}

// R3, P17.7: no call changes its arguments, nor keeps them; all that is answered is new memory, so that writing over it changes nothing of the member.
func TestMemory(t *testing.T) {
	rnd := rand.New(rand.NewPCG(17, 3))
	for range 700 {
		id := 1 + rnd.IntN(4)
		h0, draw := someHard(rnd, id), rnd.IntN(10)
		h := roomy(h0)
		r, s := raft.New(id, h, draw), newWords(id, h0, draw)
		stays(t, "the state", h, h0)
		scribble(reflect.ValueOf(h))
		script(t, rnd, r, s, 40, func(c0 call) {
			c := roomy(c0)
			got, want := do(r, c), do(s, c0)
			a, b, f, g := r.Hard(), r.Hard(), r.Flows(), r.Flows()
			if !alike(got, want) || !alike(a, s.Hard()) || !alike(f, s.Flows()) {
				t.Fatalf("%+v = %+v, want %+v", c0, got, want)
			}
			stays(t, "the call", c, c0)
			if !apart(c, got, a, b, f, g) {
				t.Fatalf("%+v = %+v: something shares memory", c0, got)
			}
			for _, x := range []any{c, got, a, f} {
				scribble(reflect.ValueOf(x))
			}
			if !alike(look(r), look(s)) || !alike(b, s.Hard()) || !alike(g, s.Flows()) {
				t.Fatalf("%+v: what is written over a call and its results changes the member, or other results", c0)
			}
		})
	}
}

// R3: no two lists of an answer share memory, even if those handed in do.
func TestSharedArguments(t *testing.T) {
	data := members(of(1, 2))
	e := []api.Entry{{Term: 1, Kind: plain, Data: data[:5]}, {Term: 1, Kind: joins, Data: data}, {Term: 1, Kind: plain, Data: data[2:9]}}
	nodes := []int{1, 2, 3}
	h := api.Hard{Group: 1, Term: 1, Log: logOf(0, 0, append(e[:3:3], e...)...), Conf: joint(nodes, nodes[1:]), Snap: data}
	r := raft.New(1, h, 0)
	x := r.Step(api.Msg{Kind: appends, From: 2, Group: 1, Term: 1, Index: 6, Prev: 1, Commit: 8, Entries: e, Data: data})
	c, _ := r.Compact(4, data)
	both := snapData(of(1, 2), nil)
	y := r.Step(api.Msg{Kind: snaps, From: 2, Group: 1, Term: 1, Index: 12, Prev: 1, Data: both})
	if len(x.Apply) != 8 || len(c.Changes) != 1 || !y.Restore || !apart(x, c, y, r.Hard(), e[:0], data, nodes, both) {
		t.Error("something shares memory")
	}
}

// R1: no call panics, whatever it is given; nothing more is promised of states that are none.
func TestNothingPanics(t *testing.T) {
	rnd := rand.New(rand.NewPCG(17, 4))
	odd := func() int {
		if rnd.IntN(3) == 0 {
			return ends[rnd.IntN(len(ends))]
		}
		return rnd.IntN(9) - 1
	}
	oddInts := func() []int {
		var l []int
		for range rnd.IntN(4) {
			l = append(l, odd())
		}
		return l
	}
	oddEntries := func() []api.Entry {
		var e []api.Entry
		for range rnd.IntN(4) {
			e = append(e, api.Entry{Term: odd(), Kind: odd(), Data: [][]byte{nil, {1}, members(of(1, 2)), members(api.Conf{Old: oddInts()})}[rnd.IntN(4)]})
		}
		return e
	}
	for i := range 20000 {
		id := odd()
		h := api.Hard{Group: odd() % 2, Term: odd(), Vote: odd(), Log: logOf(odd(), odd(), oddEntries()...), Conf: api.Conf{Old: oddInts(), New: oddInts(), Learners: oddInts()}}
		if i%2 == 0 {
			id, h.Conf, h.Log.Base, h.Log.BaseTerm, h.Term = 1, someConf(rnd, 1), rnd.IntN(3), 0, rnd.IntN(4)
		}
		r := raft.New(id, h, odd())
		for range 40 {
			m := api.Msg{Kind: 1 + rnd.IntN(5), From: odd(), To: odd(), Group: h.Group, Term: r.Hard().Term, Index: odd(), Prev: odd(), Commit: odd(), Round: odd(), Ok: rnd.IntN(2) == 0, Entries: oddEntries(), Data: snapData(someConf(rnd, 1), nil)}
			if rnd.IntN(4) == 0 {
				m.Term = odd()
			}
			do(r, []call{{What: tick, N: odd()}, {What: step, M: m}, {What: step, M: m}, {What: propose, N: odd(), Data: members(someConf(rnd, 1))}, {What: read}, {What: compact, N: odd(), Data: []byte{1}}}[rnd.IntN(6)])
			if rnd.IntN(9) == 0 {
				for range 20 {
					r.Tick(odd())
				}
			}
			r.Safe(odd())
			look(r)
		}
	}
}

// R1, R6: a log that ends at the greatest int is not continued, and nothing is lost by it.
func TestTheGreatestInt(t *testing.T) {
	r := fresh(2)
	m := api.Msg{Kind: snaps, From: 1, Group: 1, Term: 1, Index: math.MaxInt, Prev: 1, Data: snapData(of(1, 2, 3), []byte{4})}
	if x := r.Step(m); !x.Restore {
		t.Error(x)
	}
	is(t, "the log", r.Hard().Log, logOf(math.MaxInt, 1))
	is(t, "no more entries", r.Step(api.Msg{Kind: appends, From: 1, Group: 1, Term: 1, Index: math.MaxInt, Prev: 1, Commit: math.MaxInt}), api.Ready{Msgs: []api.Msg{
		{Kind: appended, From: 2, To: 1, Group: 1, Term: 1, Ok: true, Index: math.MaxInt},
	}})
	silent(t, "an entry", r.Step(api.Msg{Kind: appends, From: 1, Group: 1, Term: 1, Index: math.MaxInt, Prev: 1, Entries: terms(1)}))
	is(t, "the log", r.Hard().Log, logOf(math.MaxInt, 1))
	state(t, r, follower, 1, math.MaxInt)
	for range 50 {
		silent(t, "a tick", r.Tick(0))
	}
	is(t, "a greater term than any", r.Step(api.Msg{Kind: asks, From: 3, Group: 1, Term: math.MaxInt, Index: math.MaxInt, Prev: 1}).Changes, []api.Change{
		{Kind: term, Group: 1, Term: math.MaxInt}, {Kind: term, Group: 1, Term: math.MaxInt, Voted: 3},
	})
}

// R1, P17.1: the longest logs.
func TestVeryLongLogs(t *testing.T) {
	const n = 1 << 20
	e := make([]api.Entry, n)
	for i := range e {
		e[i] = api.Entry{Term: 1 + i>>19, Kind: plain}
	}
	e[77] = tells(1, of(1, 2))
	r := raft.New(1, api.Hard{Group: 1, Term: 2, Log: logOf(5, 1, e...), Conf: of(1, 3)}, 0)
	leads(t, r, 2)
	is(t, "Flows", r.Flows(), []api.Flow{{Node: 2, Next: n + 6}})
	x := r.Step(msg(r, appended, 2, api.Msg{Ok: true, Index: n + 6}))
	if len(x.Apply) != n+1 || x.First != 6 || r.Commit() != n+6 {
		t.Error(len(x.Apply), x.First, r.Commit())
	}
	if _, e := r.Compact(n, nil); e != 0 {
		t.Error(e)
	}
	h := r.Hard()
	is(t, "the state", h, api.Hard{Group: 1, Term: 3, Vote: 1, Log: logOf(n, 2, append(e[n-5:], api.Entry{Term: 3})...), Conf: of(1, 2)})
	s := raft.New(2, api.Hard{Group: 1, Term: 2, Log: logOf(0, 0, e...), Conf: of(1, 2)}, 0)
	y := s.Step(api.Msg{Kind: appends, From: 1, Group: 1, Term: 3, Index: n - 2, Prev: 2, Commit: n - 1, Entries: terms(3, 3)})
	if len(y.Changes) != 2 || y.Changes[1].From != n-1 || len(y.Apply) != n-1 || !y.Msgs[0].Ok || y.Msgs[0].Index != n {
		t.Error(len(y.Apply), y.Changes, y.Msgs)
	}
}
