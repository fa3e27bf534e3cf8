package raft_test

import (
	"encoding/binary"
	"math/rand/v2"
	"slices"
	"testing"

	"glebe/api"
	"glebe/conf"
	"glebe/image"
	"glebe/raft"
)

// peer is a member with what its changes have made of its Hard, and the last index that it has applied.
type peer struct {
	r    *raft.Raft
	disk api.Image
	at   int
}

// reading is a round of a leader, and how much anybody had committed when it began.
type reading struct{ node, term, round, commit, most int }

// group is members of one group, and the messages between them.
type group struct {
	t        *testing.T
	rnd      *rand.Rand
	first    api.Conf
	peers    map[int]*peer
	nodes    []int
	net      []api.Msg
	cut      map[[2]int]int
	leaders  map[int]int // of each term
	history  []api.Entry // all that anybody has applied, from the index 1 on
	within   []int       // the term in which it was committed
	sums     []uint64    // what all entries up to an index come to
	readings []reading
	fixed    bool // the members stay

	restores, changes, moved, kept, safe, anew int // how often
}

// newGroup is nodes of which those of c have the first members.
func newGroup(t *testing.T, rnd *rand.Rand, c api.Conf, nodes ...int) *group {
	g := &group{t: t, rnd: rnd, first: c, peers: map[int]*peer{}, nodes: nodes, cut: map[[2]int]int{}, leaders: map[int]int{}, sums: []uint64{1}}
	for _, n := range nodes {
		h := api.Hard{Group: 1, Conf: c, Snap: g.state(0)}
		g.peers[n] = &peer{disk: api.Image{Hards: []api.Hard{h}}}
		g.create(n)
	}
	return g
}

// create creates a member anew, from its disk alone.
func (g *group) create(n int) {
	p := g.peers[n]
	h := p.disk.Hards[0]
	p.r, p.at = raft.New(n, h, g.rnd.IntN(10)), h.Log.Base
	g.restored(p)
}

// state is the snapshot at an index.
func (g *group) state(index int) []byte {
	return binary.BigEndian.AppendUint64(nil, g.sums[index])
}

// restored holds that a member's snapshot is what all have applied up to its base.
func (g *group) restored(p *peer) {
	h := p.r.Hard()
	if h.Log.Base >= len(g.sums) || !slices.Equal(h.Snap, g.state(h.Log.Base)) {
		g.t.Fatalf("a snapshot at %d that is none", h.Log.Base)
	}
	p.at = h.Log.Base
}

// took is what becomes of a call's results: the changes are durable ahead of the messages.
func (g *group) took(n int, x api.Ready) {
	p := g.peers[n]
	for _, c := range x.Changes {
		y, e := image.Apply(p.disk, c)
		if e != api.OK {
			g.t.Fatalf("member %d: the change %+v: %d", n, c, e)
		}
		p.disk = y
	}
	h := p.r.Hard()
	if !alike(p.disk.Hards[0], h) {
		g.t.Fatalf("member %d: its changes make %+v, want %+v", n, p.disk.Hards[0], h)
	}
	if x.Restore {
		g.restores++
		g.restored(p)
	}
	grown := g.apply(n, h.Term, x)
	if p.at != p.r.Commit() {
		g.t.Fatalf("member %d: applied up to %d, and committed up to %d", n, p.at, p.r.Commit())
	}
	if p.r.Role() == leader {
		if who, ok := g.leaders[h.Term]; ok && who != n {
			g.t.Fatalf("both %d and %d lead in the term %d", n, who, h.Term)
		} else if !ok {
			g.leaders[h.Term] = n
			g.complete(n)
		}
	}
	if grown {
		for _, m := range g.nodes {
			g.complete(m)
		}
	}
	g.net = append(g.net, x.Msgs...)
}

// apply holds that what a member applies is what all others do, and reports whether it is the first to apply something.
func (g *group) apply(n, term int, x api.Ready) bool {
	p, grown := g.peers[n], false
	if len(x.Apply) > 0 && x.First != p.at+1 || len(x.Apply) == 0 && x.First != 0 {
		g.t.Fatalf("member %d: it applies from %d on, and had applied up to %d", n, x.First, p.at)
	}
	for _, e := range x.Apply {
		p.at++
		if p.at <= len(g.history) {
			if !alike(e, g.history[p.at-1]) {
				g.t.Fatalf("member %d: %+v is applied at %d, another one applied %+v", n, e, p.at, g.history[p.at-1])
			}
			continue
		}
		grown = true
		g.history, g.within = append(g.history, e), append(g.within, term)
		sum := g.sums[p.at-1]*1000003 + uint64(e.Term)*31 + uint64(e.Kind)
		for _, b := range e.Data {
			sum = sum*257 + uint64(b)
		}
		g.sums = append(g.sums, sum)
	}
	return grown
}

// complete holds that a leader has all that was committed in earlier terms.
func (g *group) complete(n int) {
	r := g.peers[n].r
	if r.Role() != leader {
		return
	}
	h := r.Hard()
	for i, e := range g.history {
		at := i - h.Log.Base
		if at < 0 || g.within[i] >= h.Term {
			continue
		}
		if at >= len(h.Log.Entries) || !alike(h.Log.Entries[at], e) {
			g.t.Fatalf("member %d leads in the term %d, and lacks %+v of the index %d, committed in the term %d", n, h.Term, e, i+1, g.within[i])
		}
	}
}

func (g *group) any() int { return g.nodes[g.rnd.IntN(len(g.nodes))] }

// anyLeader is a member that leads, or any.
func (g *group) anyLeader() int {
	n := g.any()
	for range 9 {
		if g.peers[n].r.Role() == leader {
			break
		}
		n = g.any()
	}
	return n
}

func (g *group) tick(n, draw int) { g.took(n, g.peers[n].r.Tick(draw)) }

// deliver takes a message from the net, or leaves it there for another time; it gets lost if its way is cut.
func (g *group) deliver(i int, stays bool) {
	m := g.net[i]
	if !stays {
		g.net[i] = g.net[len(g.net)-1]
		g.net = g.net[:len(g.net)-1]
	}
	if p := g.peers[m.To]; p != nil && g.cut[[2]int{min(m.From, m.To), max(m.From, m.To)}] == 0 {
		g.took(m.To, p.r.Step(m))
	}
}

// change proposes members that one step of package conf leads to, if the leader's are committed.
func (g *group) change(n int) {
	r := g.peers[n].r
	c, at := conf.Of(r.Hard())
	if g.fixed || r.Role() != leader || at > r.Commit() {
		return
	}
	var far []int
	for _, f := range r.Flows() {
		if f.Match >= r.Commit() || g.rnd.IntN(4) == 0 {
			far = append(far, f.Node)
		}
	}
	next, ok := conf.Next(c, far)
	if !ok {
		var e api.Errno
		if g.rnd.IntN(2) == 0 {
			next, e = conf.Add(c, g.any())
		} else {
			next, e = conf.Drop(c, g.any())
		}
		if e != api.OK {
			return
		}
	}
	g.changes++
	if !in(n, set(next.Old, next.New)) {
		g.moved++
	}
	_, x, e := r.Propose(joins, members(next))
	if e != api.OK {
		g.t.Fatal("Propose", e)
	}
	g.took(n, x)
}

// read begins a round, or holds that one that is over had read all that was committed when it began.
func (g *group) read(n int) {
	r := g.peers[n].r
	commit := r.Commit()
	if round, x, e := r.Read(); e == api.OK {
		g.readings = append(g.readings, reading{n, r.Hard().Term, round, commit, len(g.history)})
		g.took(n, x)
	}
}

func (g *group) check() {
	for _, v := range g.readings {
		r := g.peers[v.node].r
		if r.Role() == leader && r.Hard().Term == v.term && r.Safe(v.round) {
			g.safe++
			if v.commit < v.most {
				g.t.Fatalf("member %d reads up to %d, and %d were committed", v.node, v.commit, v.most)
			}
		}
	}
}

// step is something that happens.
func (g *group) step() {
	n := g.any()
	r := g.peers[n].r
	switch k := g.rnd.IntN(200); {
	case k < 40:
		for range 1 + g.rnd.IntN(4)*g.rnd.IntN(4) {
			g.tick(n, g.rnd.IntN(10))
		}
	case k < 48:
		n = g.anyLeader()
		if _, x, e := g.peers[n].r.Propose(plain, []byte{byte(n), byte(g.rnd.IntN(256))}); e == api.OK {
			g.took(n, x)
		}
	case k < 52:
		g.change(g.anyLeader())
	case k < 57:
		if b := r.Hard().Log.Base; r.Commit() > b {
			index := b + 1 + g.rnd.IntN(r.Commit()-b)
			x, e := r.Compact(index, g.state(index))
			if e != api.OK {
				g.t.Fatal("Compact", e)
			}
			g.took(n, x)
		}
	case k < 61:
		g.read(g.anyLeader())
		g.check()
		if len(g.readings) > 20 {
			g.readings = g.readings[10:]
		}
	case k == 61:
		g.anew++
		g.create(n)
	case k == 62:
		m := g.any()
		g.cut[[2]int{min(n, m), max(n, m)}] ^= 1
	case k == 63:
		clear(g.cut)
	default:
		g.pass()
	}
}

// pass lets something become of one of the messages.
func (g *group) pass() {
	if len(g.net) == 0 {
		return
	}
	i := g.rnd.IntN(len(g.net))
	switch k := g.rnd.IntN(20); {
	case k < 15:
		g.deliver(i, false)
	case k < 17:
		g.kept++
		g.deliver(i, true)
	default: // it gets lost
		g.net[i] = g.net[len(g.net)-1]
		g.net = g.net[:len(g.net)-1]
	}
	if len(g.net) > 60 {
		g.net = slices.Delete(g.net, 0, 20)
	}
}

// P17.8 to P17.10, and what Read is for: groups whose messages come late, twice or never, whose members are created anew at any time, and change.
func TestProperties(t *testing.T) {
	var all group
	terms, applied := 0, 0
	for seed := range 160 {
		rnd := rand.New(rand.NewPCG(17, uint64(100+seed)))
		c := []api.Conf{of(1, 2, 3), of(1, 2, 3), of(1), of(1, 2), of(1, 2, 3, 4, 5), learning(4, 1, 2, 3)}[seed%6]
		g := newGroup(t, rnd, c, 1, 2, 3, 4, 5)
		for range 3000 {
			g.step()
		}
		terms, applied = terms+len(g.leaders), applied+len(g.history)
		all.restores, all.changes, all.moved, all.kept, all.safe, all.anew = all.restores+g.restores, all.changes+g.changes, all.moved+g.moved, all.kept+g.kept, all.safe+g.safe, all.anew+g.anew
	}
	if min(terms, all.changes, all.kept, all.safe, all.anew) < 800 || applied < 8000 || all.restores < 300 || all.moved < 80 {
		t.Error("the groups do too little:", terms, applied, all.restores, all.changes, all.moved, all.kept, all.safe, all.anew)
	}
}

// quiet delivers all messages, and all that come of them.
func (g *group) quiet() {
	for i := 0; len(g.net) > 0; i++ {
		if i > 100000 {
			g.t.Fatal("the messages do not end")
		}
		g.deliver(g.rnd.IntN(len(g.net)), false)
	}
}

// once delivers what is in transit now, but nothing that comes of it.
func (g *group) once() {
	l := g.net
	g.net = nil
	for _, m := range l {
		g.took(m.To, g.peers[m.To].r.Step(m))
	}
}

// leading is how many members lead in the latest term of all.
func (g *group) leading() int {
	n, latest := 0, 0
	for _, p := range g.peers {
		latest = max(latest, p.r.Hard().Term)
	}
	for _, p := range g.peers {
		if p.r.Role() == leader && p.r.Hard().Term == latest {
			n++
		}
	}
	return n
}

// oneLog reports whether all members have applied the same, and nobody has more in its log.
func (g *group) oneLog() bool {
	for _, p := range g.peers {
		h := p.r.Hard()
		if p.at != len(g.history) || h.Log.Base+len(h.Log.Entries) != p.at {
			return false
		}
	}
	return true
}

// P17.11: three members that all messages reach within a tick have a leader, and one log, soon, however they have been before.
func TestProgress(t *testing.T) {
	for seed := range 240 {
		rnd := rand.New(rand.NewPCG(17, uint64(1000+seed)))
		c := of(1, 2, 3)
		if seed%5 == 4 {
			c = learning(2, 1, 3)
		}
		g := newGroup(t, rnd, c, 1, 2, 3)
		g.fixed = true
		for range []int{0, 50, 500, 3000}[seed%4] {
			g.step()
		}
		if seed%3 == 0 {
			for _, n := range g.nodes {
				g.create(n)
			}
			g.net = nil
		}
		clear(g.cut)
		draws := rnd.Perm(10)
		turn := func() {
			for i, n := range g.nodes {
				g.tick(n, draws[i])
				if seed%2 == 0 {
					g.quiet()
				}
			}
			if seed%4 == 1 {
				g.once()
			} else {
				g.quiet()
			}
		}
		n := 0
		for ; n < 100 && g.leading() == 0; n++ {
			turn()
		}
		if g.leading() != 1 {
			t.Fatal("nobody leads behind 100 ticks")
		}
		for n = 0; n < 300 && !g.oneLog(); n++ {
			turn()
		}
		if !g.oneLog() {
			t.Fatal("there is no one log behind 300 further ticks")
		}
		for range 50 {
			turn()
		}
		if !g.oneLog() || g.leading() != 1 {
			t.Fatal("it does not stay so")
		}
	}
}
