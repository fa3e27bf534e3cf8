package flow_test

import (
	"bytes"
	"encoding/binary"
	"math"
	"math/big"
	"math/rand/v2"
	"reflect"
	"slices"
	"testing"

	"glebe/api"
	"glebe/flow"
	"glebe/image"
	"glebe/pack"
	"glebe/rlog"
)

// The document's numbers, held against api's by TestLimits.
const (
	appending = 3 // MAppend
	appended  = 4 // MAppended
	snapping  = 5 // MSnap
	batch     = 8
	top       = 1 << 40
	longest   = 1 << 20 // entries of a log
)

// The chapter's functions, with these very signatures.
var (
	_ func(int, int) api.Flow                         = flow.New
	_ func(api.Flow, api.Msg) api.Flow                = flow.Heard
	_ func(api.Flow, int, api.Hard, int, int) api.Msg = flow.Next
)

// ends are numbers at the ends of int and of what a flow's number may be.
var ends = []int{math.MinInt, math.MinInt + 1, math.MinInt + 2, -top, -1 << 32, -2, -1, 0, 1, 2, 3, 1 << 32, top - 1, top, top + 1, top + 2, math.MaxInt - 2, math.MaxInt - 1, math.MaxInt}

// inner are those of ends that a flow's number may be.
var inner = []int{0, 1, 2, 3, 1 << 32, top - 1, top, top + 1}

// entries is entries of these terms, each of which tells by its kind and its bytes where it is from.
func entries(mark byte, terms ...int) []api.Entry {
	var l []api.Entry
	for i, term := range terms {
		l = append(l, api.Entry{Term: term, Kind: int(mark)*100 + i, Data: bytes.Repeat([]byte{mark, byte(i)}, i%3)})
	}
	return l
}

// terms is n terms from 1 on, each of them three times.
func terms(n int) []int {
	l := make([]int, n)
	for i := range l {
		l[i] = 1 + i/3
	}
	return l
}

// exampleFlow is the flow of the chapter's examples.
func exampleFlow() api.Flow { return api.Flow{Node: 3, Next: 8, Match: 2, Round: 5} }

// exampleHard has the log of the chapter's examples.
func exampleHard() api.Hard {
	return api.Hard{
		Group: 2, Term: 6, Vote: 4, Log: api.Log{Base: 4, BaseTerm: 2, Entries: entries(1, 2, 3, 3)},
		Conf: api.Conf{Old: []int{1, 3}, New: []int{3, 5}, Learners: []int{7}}, Snap: []byte{9, 8, 7},
	}
}

// ok and no are the answers of a node.
func ok(from, index, round int) api.Msg {
	return api.Msg{Kind: appended, From: from, Ok: true, Index: index, Round: round}
}

func no(from, index, round int) api.Msg {
	return api.Msg{Kind: appended, From: from, Index: index, Round: round}
}

// lists is all lists of up to k numbers out of some.
func lists(k int, out ...int) [][]int {
	all := [][]int{nil}
	for from := 0; k > 0; k-- {
		to := len(all)
		for _, l := range all[from:to] {
			for _, v := range out {
				all = append(all, append(slices.Clone(l), v))
			}
		}
		from = to
	}
	return all
}

// some is a list of up to k numbers out of some.
func some(r *rand.Rand, k int, out ...int) []int {
	var l []int
	for range r.IntN(k + 1) {
		l = append(l, out[r.IntN(len(out))])
	}
	return l
}

func someBytes(r *rand.Rand, k int) []byte {
	b := make([]byte, r.IntN(k+1))
	for i := range b {
		b[i] = byte(r.Uint32())
	}
	return b
}

func randomHard(r *rand.Rand) api.Hard {
	h := api.Hard{Group: r.IntN(5), Term: r.IntN(9), Vote: r.IntN(8), Snap: someBytes(r, 9)}
	h.Log = api.Log{Base: r.IntN(6), BaseTerm: r.IntN(4), Entries: entries(byte(r.IntN(250)), some(r, 20, 1, 2, 3, 4)...)}
	h.Conf = api.Conf{Old: some(r, 4, 1, 2, 3, 9), New: some(r, 4, 4, 5, -1), Learners: some(r, 3, 6, 7, 0)}
	return h
}

// heard follows the words of P15.2 in mathematical integers; it tells false if Next would be no int.
func heard(f api.Flow, m api.Msg) (api.Flow, bool) {
	if m.Kind != appended || m.From != f.Node {
		return f, true
	}
	one, next, index := big.NewInt(1), big.NewInt(int64(f.Next)), big.NewInt(int64(m.Index))
	if m.Ok {
		if m.Index > f.Match {
			f.Match = m.Index
		}
		if m.Round > f.Round {
			f.Round = m.Round
		}
	} else {
		next.Sub(next, one)
		if limit := index.Add(index, one); next.Cmp(limit) > 0 {
			next = limit
		}
	}
	least := big.NewInt(int64(f.Match))
	if least.Add(least, one); next.Cmp(least) < 0 {
		next = least
	}
	f.Next = int(next.Int64())
	return f, next.IsInt64()
}

func number(b []byte, l ...int) []byte {
	for _, v := range l {
		b = binary.BigEndian.AppendUint64(b, uint64(v))
	}
	return b
}

// snapBytes is the two byte strings of P15.3, by the definitions of the chapters 2 and 13.
func snapBytes(h api.Hard) []byte {
	var members []byte
	for _, l := range [][]int{h.Conf.Old, h.Conf.New, h.Conf.Learners} {
		members = number(number(members, len(l)), l...)
	}
	b := append(number(nil, len(members)), members...)
	return append(number(b, len(h.Snap)), h.Snap...)
}

// next follows the words of P15.3, index by index.
func next(f api.Flow, id int, h api.Hard, commit, round int) api.Msg {
	var m api.Msg
	m.From, m.To, m.Group, m.Term, m.Round = id, f.Node, h.Group, h.Term, round
	if !(f.Next > h.Log.Base) {
		m.Kind, m.Index, m.Prev, m.Data = snapping, h.Log.Base, h.Log.BaseTerm, snapBytes(h)
		return m
	}
	term, entry := map[int]int{h.Log.Base: h.Log.BaseTerm}, map[int]api.Entry{}
	for i, e := range h.Log.Entries {
		term[h.Log.Base+1+i], entry[h.Log.Base+1+i] = e.Term, e
	}
	m.Kind, m.Index, m.Commit = appending, f.Next-1, commit
	m.Prev = term[m.Index]
	for i := f.Next; len(m.Entries) < batch; i++ {
		e, there := entry[i]
		if !there {
			break
		}
		m.Entries = append(m.Entries, e)
	}
	return m
}

// plain is a message in which nil and empty lists are one.
func plain(m api.Msg) api.Msg {
	if len(m.Data) == 0 {
		m.Data = nil
	}
	var l []api.Entry
	for _, e := range m.Entries {
		if len(e.Data) == 0 {
			e.Data = nil
		}
		l = append(l, e)
	}
	m.Entries = l
	return m
}

func sameMsg(a, b api.Msg) bool { return reflect.DeepEqual(plain(a), plain(b)) }

func sameEntries(a, b []api.Entry) bool {
	return sameMsg(api.Msg{Entries: a}, api.Msg{Entries: b})
}

func makes(t *testing.T, node, last int, want api.Flow) {
	t.Helper()
	if got := flow.New(node, last); got != want {
		t.Errorf("New(%d, %d) = %v, want %v", node, last, got, want)
	}
}

func hears(t *testing.T, f api.Flow, m api.Msg, want api.Flow) {
	t.Helper()
	if got := flow.Heard(f, m); got != want {
		t.Errorf("Heard(%v, %+v) = %v, want %v", f, m, got, want)
	}
}

// hearsByTheWords holds Heard against P15.2, and tells what came of it.
func hearsByTheWords(t *testing.T, f api.Flow, m api.Msg) api.Flow {
	t.Helper()
	if want, there := heard(f, m); there {
		hears(t, f, m, want)
	}
	return flow.Heard(f, m)
}

func sends(t *testing.T, f api.Flow, id int, h api.Hard, commit, round int, want api.Msg) {
	t.Helper()
	if got := flow.Next(f, id, h, commit, round); !sameMsg(got, want) {
		t.Errorf("Next(%v, %d, %+v, %d, %d) = %+v, want %+v", f, id, h, commit, round, got, want)
	}
}

func sendsByTheWords(t *testing.T, f api.Flow, id int, h api.Hard, commit, round int) {
	t.Helper()
	sends(t, f, id, h, commit, round, next(f, id, h, commit, round))
}

func TestLimits(t *testing.T) {
	if api.MAppend != appending || api.MAppended != appended || api.MSnap != snapping || api.Batch != batch || api.MaxNumber != top {
		t.Error("the limits or the kinds are other ones")
	}
}

// The chapter's examples.
func TestExamples(t *testing.T) {
	f := exampleFlow()
	hears(t, f, ok(3, 9, 4), api.Flow{Node: 3, Next: 10, Match: 9, Round: 5})
	hears(t, f, ok(3, 4, 7), api.Flow{Node: 3, Next: 8, Match: 4, Round: 7})
	hears(t, f, no(3, 20, 0), api.Flow{Node: 3, Next: 7, Match: 2, Round: 5})
	hears(t, f, no(3, 4, 0), api.Flow{Node: 3, Next: 5, Match: 2, Round: 5})
	hears(t, f, no(3, 0, 0), api.Flow{Node: 3, Next: 3, Match: 2, Round: 5})
	hears(t, f, ok(4, 9, 4), f)
	hears(t, f, api.Msg{Kind: api.MVoted, From: 3, Ok: true}, f)
	h := exampleHard()
	m := flow.Next(api.Flow{Node: 3, Next: 6}, 1, h, 0, 0)
	if m.Kind != appending || m.Index != 5 || m.Prev != 2 || !sameEntries(m.Entries, h.Log.Entries[1:]) {
		t.Errorf("Next of 6: %+v", m)
	}
	m = flow.Next(api.Flow{Node: 3, Next: 4}, 1, h, 0, 0)
	if m.Kind != snapping || m.Index != 4 || m.Prev != 2 {
		t.Errorf("Next of 4: %+v", m)
	}
}

// P15.1: nodes and last indexes of any sort, as long as one more is a number.
func TestNew(t *testing.T) {
	makes(t, 2, 7, api.Flow{Node: 2, Next: 8})
	makes(t, 7, 0, api.Flow{Node: 7, Next: 1})
	makes(t, 1, top, api.Flow{Node: 1, Next: 1<<40 + 1})
	makes(t, 0, -1, api.Flow{})
	for node := -2; node <= 9; node++ {
		for last := -3; last <= 300; last++ {
			makes(t, node, last, api.Flow{Node: node, Next: last + 1})
		}
	}
	for _, node := range ends {
		for _, last := range ends {
			if last < math.MaxInt {
				makes(t, node, last, api.Flow{Node: node, Next: last + 1, Match: 0, Round: 0})
			}
		}
	}
}

// P15.2: small numbers, each with each.
func TestHeard(t *testing.T) {
	for next := range 8 {
		for match := range 7 {
			for round := range 3 {
				f := api.Flow{Node: 3, Next: next, Match: match, Round: round}
				for index := -2; index <= 9; index++ {
					for answered := -1; answered <= 3; answered++ {
						hearsByTheWords(t, f, ok(3, index, answered))
						hearsByTheWords(t, f, no(3, index, answered))
					}
				}
			}
		}
	}
}

// P15.2: an Ok moves Next no further than it must, and never back.
func TestHeardOk(t *testing.T) {
	f := exampleFlow()
	for _, x := range []struct{ index, next, match int }{
		{-1, 8, 2}, {0, 8, 2}, {1, 8, 2}, {2, 8, 2}, {3, 8, 3}, {6, 8, 6}, {7, 8, 7}, {8, 9, 8}, {9, 10, 9}, {1000, 1001, 1000}, {top, top + 1, top}, {math.MaxInt - 1, math.MaxInt, math.MaxInt - 1}, {math.MinInt, 8, 2},
	} {
		for _, y := range []struct{ answered, round int }{{-1, 5}, {0, 5}, {4, 5}, {5, 5}, {6, 6}, {7, 7}, {top, top}, {math.MaxInt, math.MaxInt}, {math.MinInt, 5}} {
			hears(t, f, ok(3, x.index, y.answered), api.Flow{Node: 3, Next: x.next, Match: x.match, Round: y.round})
		}
	}
	hears(t, api.Flow{Node: 3, Next: 2, Match: 6}, ok(3, 0, 0), api.Flow{Node: 3, Next: 7, Match: 6})
	hears(t, api.Flow{Node: 3, Next: 6, Match: 6}, ok(3, 6, 0), api.Flow{Node: 3, Next: 7, Match: 6})
	hears(t, api.Flow{Node: 3}, ok(3, 0, 0), api.Flow{Node: 3, Next: 1})
	hears(t, api.Flow{Node: 3}, ok(3, -5, -5), api.Flow{Node: 3, Next: 1})
	hears(t, api.Flow{Node: 3, Next: top + 1, Match: top + 1, Round: top + 1}, ok(3, top, top), api.Flow{Node: 3, Next: top + 2, Match: top + 1, Round: top + 1})
}

// P15.2: what is not Ok moves Next alone: back by one, to the Index, or to the Match, whatever its Round is.
func TestHeardNotOk(t *testing.T) {
	f := exampleFlow()
	for _, x := range []struct{ index, next int }{
		{math.MaxInt, 7}, {math.MaxInt - 1, 7}, {top, 7}, {20, 7}, {8, 7}, {7, 7}, {6, 7}, {5, 6}, {4, 5}, {3, 4}, {2, 3}, {1, 3}, {0, 3}, {-1, 3}, {-2, 3}, {-top, 3}, {math.MinInt + 1, 3}, {math.MinInt, 3},
	} {
		for _, round := range ends {
			hears(t, f, no(3, x.index, round), api.Flow{Node: 3, Next: x.next, Match: 2, Round: 5})
		}
	}
	for _, index := range ends {
		hears(t, api.Flow{Node: 3, Next: 1}, no(3, index, 9), api.Flow{Node: 3, Next: 1})
		hears(t, api.Flow{Node: 3, Next: 0}, no(3, index, 9), api.Flow{Node: 3, Next: 1})
		hears(t, api.Flow{Node: 3, Next: 7, Match: 6}, no(3, index, 9), api.Flow{Node: 3, Next: 7, Match: 6})
		hears(t, api.Flow{Node: 3, Next: 6, Match: 6}, no(3, index, 9), api.Flow{Node: 3, Next: 7, Match: 6})
		hears(t, api.Flow{Node: 3, Next: 0, Match: 6}, no(3, index, 9), api.Flow{Node: 3, Next: 7, Match: 6})
		hears(t, api.Flow{Node: 3, Next: 8, Match: 6}, no(3, index, 9), api.Flow{Node: 3, Next: 7, Match: 6})
		hears(t, api.Flow{Node: 3, Next: top + 1, Match: top + 1}, no(3, index, 9), api.Flow{Node: 3, Next: top + 2, Match: top + 1})
	}
	hears(t, api.Flow{Node: 3, Next: 2}, no(3, 0, 0), api.Flow{Node: 3, Next: 1})
	hears(t, api.Flow{Node: 3, Next: 2}, no(3, 5, 0), api.Flow{Node: 3, Next: 1})
	hears(t, api.Flow{Node: 3, Next: 3}, no(3, 0, 0), api.Flow{Node: 3, Next: 1})
	hears(t, api.Flow{Node: 3, Next: 3}, no(3, 1, 0), api.Flow{Node: 3, Next: 2})
	hears(t, api.Flow{Node: 3, Next: top + 1}, no(3, math.MaxInt, 0), api.Flow{Node: 3, Next: top})
	hears(t, api.Flow{Node: 3, Next: top + 1}, no(3, top-1, 0), api.Flow{Node: 3, Next: top})
	hears(t, api.Flow{Node: 3, Next: top + 1}, no(3, top-2, 0), api.Flow{Node: 3, Next: top - 1})
}

// P15.2: nothing but an answer of the Node counts.
func TestHeardOfNobodyElse(t *testing.T) {
	for node := 0; node <= 8; node++ {
		f := api.Flow{Node: node, Next: 8, Match: 2, Round: 5}
		for kind := -1; kind <= 13; kind++ {
			for from := -1; from <= 9; from++ {
				yes, not := f, f
				if kind == 4 && from == node {
					yes, not = api.Flow{Node: node, Next: 10, Match: 9, Round: 7}, api.Flow{Node: node, Next: 5, Match: 2, Round: 5}
				}
				hears(t, f, api.Msg{Kind: kind, From: from, Ok: true, Index: 9, Round: 7}, yes)
				hears(t, f, api.Msg{Kind: kind, From: from, Index: 4, Round: 7}, not)
			}
		}
	}
	for _, a := range ends {
		for _, b := range ends {
			f := api.Flow{Node: a, Next: 8, Match: 2, Round: 5}
			for _, m := range []api.Msg{ok(b, 9, 7), no(b, 4, 7)} {
				hearsByTheWords(t, f, m)
				m.Kind = a
				hearsByTheWords(t, f, m)
				hearsByTheWords(t, exampleFlow(), m)
			}
		}
	}
	// A flow that Heard would mend if it were an answer stays as it is, too.
	for _, m := range []api.Msg{{}, ok(4, 0, 0), no(4, 0, 0), {Kind: api.MVoted, From: 3}, {Kind: appending, From: 3, To: 3}, {Kind: 5, From: 3, Ok: true}, {Kind: appended, To: 3, Ok: true}} {
		hears(t, api.Flow{Node: 3, Next: 0, Match: 6, Round: 1}, m, api.Flow{Node: 3, Next: 0, Match: 6, Round: 1})
	}
}

// others is a message with one other field after the other, none of which P15.2 names.
func others(m api.Msg) []api.Msg {
	all := slices.Repeat([]api.Msg{m}, 27)
	for i, v := range []int{1, 3, -1, 9} {
		all[i].To, all[4+i].Group, all[8+i].Term = v, v, v
		all[12+i].Prev, all[16+i].Commit = v, v
	}
	all[20].Txn, all[21].Part, all[22].Ballot, all[23].Value, all[24].Seq = 7, 7, 7, 7, 7
	all[25].Entries = entries(9, 9, 9)
	all[26].Data = []byte{9}
	return all
}

// P15.2: the message's other fields do not count.
func TestHeardLooksAtNoOtherField(t *testing.T) {
	f := exampleFlow()
	for _, m := range []api.Msg{ok(3, 9, 4), ok(3, 4, 7), no(3, 20, 9), no(3, 4, 9), no(3, 0, 9), ok(4, 9, 4), no(4, 4, 9), {Kind: 2, From: 3, Ok: true}} {
		want, _ := heard(f, m)
		for _, other := range others(m) {
			hears(t, f, other, want)
		}
	}
}

// P15.2: flows at the edges of what is promised, and answers of any numbers.
func TestHeardOfAnyNumbers(t *testing.T) {
	for _, next := range inner {
		for _, match := range inner {
			for _, index := range ends {
				for i, round := range inner {
					f := api.Flow{Node: 2, Next: next, Match: match, Round: round}
					for _, answered := range []int{ends[i], ends[len(ends)-1-i], round, round + 1} {
						hearsByTheWords(t, f, ok(2, index, answered))
						hearsByTheWords(t, f, no(2, index, answered))
					}
				}
			}
		}
	}
	r := rand.New(rand.NewPCG(15, 1))
	for range 100000 {
		f := api.Flow{Node: r.IntN(3), Next: r.IntN(top + 2), Match: r.IntN(top + 2), Round: r.IntN(top + 2)}
		m := api.Msg{Kind: 4, From: r.IntN(3), Ok: r.IntN(2) == 0, Index: int(r.Uint64()), Round: int(r.Uint64())}
		switch r.IntN(3) {
		case 0:
			m.Index = f.Next - 3 + r.IntN(5)
		case 1:
			m.Index = f.Match - 2 + r.IntN(5)
		}
		hearsByTheWords(t, f, m)
	}
}

// grows holds what P15.4 says of a flow that becomes another one by a message.
func grows(t *testing.T, f, g api.Flow, m api.Msg) {
	t.Helper()
	if g.Node != f.Node || g.Match < f.Match || g.Round < f.Round {
		t.Fatalf("%v, %+v: %v", f, m, g)
	}
	if f.Next > f.Match && g.Next <= g.Match {
		t.Fatalf("%v, %+v: %v: Next is not greater than Match any more", f, m, g)
	}
	if !m.Ok && f.Next > f.Match && g.Next > f.Next {
		t.Fatalf("%v, %+v: %v: Next has increased", f, m, g)
	}
}

// P15.4: each small flow with each answer, and long rows of messages.
func TestFlowsGrow(t *testing.T) {
	for next := range 9 {
		for match := range 9 {
			for index := -3; index <= 11; index++ {
				for round := range 4 {
					f := api.Flow{Node: 1, Next: next, Match: match, Round: 2}
					for _, m := range []api.Msg{ok(1, index, round), no(1, index, round), ok(2, index, round), no(2, index, round)} {
						grows(t, f, flow.Heard(f, m), m)
					}
				}
			}
		}
	}
	r := rand.New(rand.NewPCG(15, 2))
	for range 2000 {
		f := flow.New(1+r.IntN(7), r.IntN(40))
		for range 60 {
			m := api.Msg{Kind: 3 + r.IntN(4)/2, From: f.Node + r.IntN(3)/2, Ok: r.IntN(3) == 0, Index: r.IntN(50) - 3, Round: r.IntN(9)}
			g := hearsByTheWords(t, f, m)
			grows(t, f, g, m)
			if g.Next <= g.Match {
				t.Fatalf("%v", g)
			}
			f = g
		}
	}
}

// P15.3: every field of what is sent, by hand.
func TestNextSaysThis(t *testing.T) {
	h := exampleHard()
	e := h.Log.Entries
	f := api.Flow{Node: 5, Next: 5, Match: 9, Round: 99}
	sends(t, f, 1, h, 6, 3, api.Msg{Kind: 3, From: 1, To: 5, Group: 2, Term: 6, Index: 4, Prev: 2, Commit: 6, Round: 3, Entries: e})
	f.Next = 6
	sends(t, f, 1, h, 6, 3, api.Msg{Kind: 3, From: 1, To: 5, Group: 2, Term: 6, Index: 5, Prev: 2, Commit: 6, Round: 3, Entries: e[1:]})
	f.Next = 7
	sends(t, f, 1, h, 6, 3, api.Msg{Kind: 3, From: 1, To: 5, Group: 2, Term: 6, Index: 6, Prev: 3, Commit: 6, Round: 3, Entries: e[2:]})
	f.Next = 8
	sends(t, f, 1, h, 7, 3, api.Msg{Kind: 3, From: 1, To: 5, Group: 2, Term: 6, Index: 7, Prev: 3, Commit: 7, Round: 3})
	f.Next = 9
	sends(t, f, 1, h, 7, 3, api.Msg{Kind: 3, From: 1, To: 5, Group: 2, Term: 6, Index: 8, Prev: 0, Commit: 7, Round: 3})
	f.Next = top + 1
	sends(t, f, 1, h, 7, 3, api.Msg{Kind: 3, From: 1, To: 5, Group: 2, Term: 6, Index: top, Prev: 0, Commit: 7, Round: 3})
	data := []byte{
		0, 0, 0, 0, 0, 0, 0, 64,
		0, 0, 0, 0, 0, 0, 0, 2, 0, 0, 0, 0, 0, 0, 0, 1, 0, 0, 0, 0, 0, 0, 0, 3,
		0, 0, 0, 0, 0, 0, 0, 2, 0, 0, 0, 0, 0, 0, 0, 3, 0, 0, 0, 0, 0, 0, 0, 5,
		0, 0, 0, 0, 0, 0, 0, 1, 0, 0, 0, 0, 0, 0, 0, 7,
		0, 0, 0, 0, 0, 0, 0, 3, 9, 8, 7,
	}
	for f.Next = range 5 {
		sends(t, f, 1, h, 6, 3, api.Msg{Kind: 5, From: 1, To: 5, Group: 2, Term: 6, Index: 4, Prev: 2, Round: 3, Data: data})
	}
	nothing := append([]byte{0, 0, 0, 0, 0, 0, 0, 24}, make([]byte, 32)...)
	sends(t, api.Flow{}, 0, api.Hard{}, 0, 0, api.Msg{Kind: 5, Data: nothing})
	sends(t, api.Flow{Next: 1}, 0, api.Hard{}, 0, 0, api.Msg{Kind: 3})
	sends(t, api.Flow{Next: 2}, 0, api.Hard{}, 0, 0, api.Msg{Kind: 3, Index: 1})
	sends(t, api.Flow{Next: 1}, 0, api.Hard{Log: api.Log{BaseTerm: 4}}, 0, 0, api.Msg{Kind: 3, Prev: 4})
	sends(t, api.Flow{Next: 1}, 0, api.Hard{Log: api.Log{Base: 1, BaseTerm: 4}}, 0, 0, api.Msg{Kind: 5, Index: 1, Prev: 4, Data: nothing})
}

// P15.3: logs of up to four batches, from every index on.
func TestNextOfEveryIndex(t *testing.T) {
	h := exampleHard()
	for _, base := range []int{0, 1, 4, 30, top - 33, top - 1, top} {
		for _, baseTerm := range []int{0, 3, top} {
			for n := range 4*batch + 2 {
				h.Log = api.Log{Base: base, BaseTerm: baseTerm, Entries: entries(byte(n), terms(n)...)}
				for i := max(0, base-3); i <= base+n+4; i++ {
					sendsByTheWords(t, api.Flow{Node: 2, Next: i}, 1, h, i/2, n)
				}
				for _, i := range inner {
					sendsByTheWords(t, api.Flow{Node: 2, Next: i}, 1, h, i/2, n)
				}
			}
		}
	}
}

// P15.3: from an index on there are as many entries as the log has, and eight at most.
func TestNextOfABatch(t *testing.T) {
	h := exampleHard()
	for n := range 20 {
		h.Log.Entries = entries(3, terms(n)...)
		for from := range n + 1 {
			m := flow.Next(api.Flow{Node: 2, Next: 5 + from}, 1, h, 0, 0)
			if want := min(8, n-from); len(m.Entries) != want || !sameEntries(m.Entries, h.Log.Entries[from:from+want]) {
				t.Fatalf("%d of %d entries: %v", from, n, m.Entries)
			}
		}
	}
}

// P15.3: the terms of a log may be of any sort, and the Prev is that of the index ahead.
func TestNextOfTerms(t *testing.T) {
	h := exampleHard()
	for _, base := range []int{0, 4} {
		for _, baseTerm := range []int{0, 2, 7} {
			for _, l := range lists(4, 0, 1, 7) {
				h.Log = api.Log{Base: base, BaseTerm: baseTerm, Entries: entries(1, l...)}
				for i := range base + 8 {
					sendsByTheWords(t, api.Flow{Node: 2, Next: i}, 1, h, 5, 6)
				}
			}
		}
	}
	for _, a := range ends {
		for _, b := range ends {
			h.Log = api.Log{Base: 4, BaseTerm: 2, Entries: []api.Entry{{Term: a, Kind: b}, {Term: b, Kind: a, Data: []byte{1}}}}
			for i := 3; i <= 8; i++ {
				sendsByTheWords(t, api.Flow{Node: 2, Next: i}, 1, h, 5, 6)
			}
		}
	}
}

// P15.3: each of the numbers may be any int, and says itself at its place.
func TestNextOfAnyNumbers(t *testing.T) {
	h := exampleHard()
	for _, a := range ends {
		for _, b := range ends {
			for _, i := range []int{3, 4, 5, 7, 8} {
				sendsByTheWords(t, api.Flow{Node: 2, Next: i}, a, h, b, 3)
				sendsByTheWords(t, api.Flow{Node: 2, Next: i}, 1, h, a, b)
				sendsByTheWords(t, api.Flow{Node: a, Next: i}, b, h, 6, 3)
				sendsByTheWords(t, api.Flow{Node: 2, Next: i, Match: a, Round: b}, 1, h, 6, 3)
				x := h
				x.Group, x.Term, x.Vote = a, b, 9
				sendsByTheWords(t, api.Flow{Node: 2, Next: i}, 1, x, 6, 3)
				x.Group, x.Term, x.Vote = 2, a, b
				sendsByTheWords(t, api.Flow{Node: 2, Next: i}, 1, x, 6, 3)
			}
		}
	}
}

// P15.3: what a snapshot says can be read, whatever the members and the bytes are.
func TestNextOfSnapshots(t *testing.T) {
	short := lists(2, 1, 4, 7)
	for _, old := range short {
		for _, new := range short {
			for _, learners := range lists(1, 2, -1, math.MaxInt) {
				h := exampleHard()
				h.Conf = api.Conf{Old: old, New: new, Learners: learners}
				h.Snap = bytes.Repeat([]byte{0xC3}, len(old)*7+len(new))
				sendsByTheWords(t, api.Flow{Node: 2, Next: 4}, 1, h, 6, 3)
				r := pack.Read(flow.Next(api.Flow{Node: 2, Next: 1}, 1, h, 6, 3).Data)
				members, snap := r.Blob(), r.Blob()
				if r.End() != api.OK || !bytes.Equal(members, image.PutConf(h.Conf)) || !bytes.Equal(snap, h.Snap) {
					t.Fatalf("%+v: %v, %v", h.Conf, members, snap)
				}
			}
		}
	}
	h := exampleHard()
	for n := range 300 {
		h.Snap = bytes.Repeat([]byte{byte(n)}, n)
		sendsByTheWords(t, api.Flow{Node: 2, Next: 4}, 1, h, 6, 3)
	}
	c, e := image.GetConf(pack.Read(flow.Next(api.Flow{Node: 2}, 1, h, 6, 3).Data).Blob())
	if e != api.OK || !reflect.DeepEqual(c, h.Conf) {
		t.Error(c, e)
	}
}

// P15.3: states of any sort.
func TestNextFollowsTheWords(t *testing.T) {
	r := rand.New(rand.NewPCG(15, 3))
	kinds := map[int]int{}
	for range 50000 {
		h := randomHard(r)
		f := api.Flow{Node: r.IntN(8), Next: r.IntN(30), Match: r.IntN(30), Round: r.IntN(9)}
		want := next(f, 3, h, r.IntN(30), r.IntN(9))
		kinds[want.Kind]++
		sends(t, f, 3, h, want.Commit, want.Round, want)
		if want.Kind == snapping {
			sends(t, f, 3, h, r.IntN(30), want.Round, want)
		}
	}
	if kinds[appending] < 10000 || kinds[snapping] < 3000 {
		t.Errorf("only %v", kinds)
	}
}

// entryOf is the entry of a term at an index, which the two determine.
func entryOf(index, term int) api.Entry {
	return api.Entry{Term: term, Kind: index%2 + 1, Data: number(nil, index, term)[:1+index%16]}
}

// logOf is the log of these terms from the index 1 on, whose base is the index base.
func logOf(l []int, base int) api.Log {
	x := api.Log{Base: base}
	if base > 0 {
		x.BaseTerm = l[base-1]
	}
	for i, term := range l[base:] {
		x.Entries = append(x.Entries, entryOf(base+1+i, term))
	}
	return x
}

// matches reports whether two logs have the same terms and entries up to an index, at all indexes that both have.
func matches(a, b api.Log, index int) bool {
	for i := max(a.Base, b.Base); i <= index; i++ {
		x, there := rlog.Term(a, i)
		y, also := rlog.Term(b, i)
		if !there || !also || x != y || !sameEntries(rlog.Slice(a, i, 1), rlog.Slice(b, i, 1)) && i > max(a.Base, b.Base) {
			return false
		}
	}
	return true
}

// fork is the terms of a leader and of a node; they are the same up to an index that is told, and others behind it.
func fork(r *rand.Rand) (leader, node []int, same int) {
	same = r.IntN(13)
	for i := range same {
		leader = append(leader, 1+i/4)
	}
	node = slices.Clone(leader)
	for range r.IntN(14) {
		leader = append(leader, 8)
	}
	for range r.IntN(7) {
		node = append(node, 5+r.IntN(2))
	}
	return leader, node, same
}

// P15.5: a log that matches the leader's up to the index before Next matches up to the last entry that is sent.
func TestWhatIsSentMatches(t *testing.T) {
	r := rand.New(rand.NewPCG(15, 4))
	long := 0
	for range 30000 {
		leader, node, same := fork(r)
		base := r.IntN(same + 1)
		h := api.Hard{Group: 1, Term: 9, Log: logOf(leader, r.IntN(same+1))}
		f := api.Flow{Node: 2, Next: 1 + max(base, h.Log.Base) + r.IntN(same+1-max(base, h.Log.Base))}
		m := flow.Next(f, 1, h, 0, 0)
		if m.Kind != appending || m.Index != f.Next-1 {
			t.Fatalf("%v of %v: %+v", f, h.Log, m)
		}
		mine := logOf(node, base)
		if term, there := rlog.Term(mine, m.Index); !there || term != m.Prev {
			t.Fatalf("%v of %v: the term ahead is %d", f, h.Log, m.Prev)
		}
		got, _ := rlog.Append(mine, m.Index, m.Entries)
		end := m.Index + len(m.Entries)
		if !matches(got, h.Log, end) || end != min(len(leader), m.Index+8) {
			t.Fatalf("%v of %v, to %v: %v", f, h.Log, mine, got)
		}
		if len(m.Entries) == 8 {
			long++
		}
	}
	if long < 3000 {
		t.Errorf("only %d whole batches", long)
	}
}

// answer is what a node with a log answers by chapter 17, and its log then.
func answer(l api.Log, m api.Msg, committed int) (api.Log, api.Msg) {
	if m.Kind == snapping {
		return api.Log{Base: m.Index, BaseTerm: m.Prev}, ok(m.To, m.Index, m.Round)
	}
	if m.Index < l.Base {
		return l, ok(m.To, committed, m.Round)
	}
	last, _ := rlog.Last(l)
	if term, there := rlog.Term(l, m.Index); !there || term != m.Prev {
		return l, no(m.To, max(0, min(last, m.Index-1)), m.Round)
	}
	l, _ = rlog.Append(l, m.Index, m.Entries)
	return l, ok(m.To, m.Index+len(m.Entries), m.Round)
}

// P15.2, P15.3: whatever a node's log was, it becomes the leader's by what is sent and answered, in few steps.
func TestANodeComesUp(t *testing.T) {
	r := rand.New(rand.NewPCG(15, 5))
	snaps := 0
	for range 5000 {
		leader, node, same := fork(r)
		base := r.IntN(same + 1)
		h, l := api.Hard{Group: 1, Term: 9, Log: logOf(leader, r.IntN(len(leader)+1))}, logOf(node, base)
		f := flow.New(2, len(leader))
		for steps := 1; f.Match < len(leader); steps++ {
			var back api.Msg
			m := flow.Next(f, 1, h, 0, steps)
			if m.Kind == snapping {
				snaps++
			}
			l, back = answer(l, m, base)
			f = hearsByTheWords(t, f, back)
			if steps > len(leader)+6 {
				t.Fatalf("%v, %v: %v after %d steps", h.Log, logOf(node, base), f, steps)
			}
		}
		if !matches(l, h.Log, len(leader)) || f.Next != f.Match+1 {
			t.Fatalf("%v, %v: %v, %v", h.Log, logOf(node, base), l, f)
		}
	}
	if snaps < 500 {
		t.Errorf("only %d snapshots", snaps)
	}
}

// R1: no call panics, whatever it is given; nothing is promised of what it answers.
func TestNothingPanics(t *testing.T) {
	e := entries(1, terms(9)...)
	for _, a := range ends {
		for _, b := range ends {
			flow.New(a, b)
			for _, c := range ends {
				for _, answered := range []bool{false, true} {
					m := api.Msg{Kind: appended, From: 2, Ok: answered, Index: a, Round: b}
					flow.Heard(api.Flow{Node: 2, Next: b, Match: c, Round: a}, m)
					flow.Heard(api.Flow{Node: 2, Next: c, Match: b, Round: c}, m)
				}
				for n := range len(e) + 1 {
					h := api.Hard{Log: api.Log{Base: a, BaseTerm: b, Entries: e[:n]}, Conf: api.Conf{Old: []int{a}, New: []int{b, c}}}
					flow.Next(api.Flow{Node: 2, Next: c, Match: b}, a, h, b, c)
					flow.Next(api.Flow{Node: 2, Next: a + n, Match: b}, a, h, b, c)
				}
			}
		}
	}
	for _, f := range []api.Flow{{}, exampleFlow()} {
		flow.Heard(f, api.Msg{})
		flow.Next(f, 0, api.Hard{}, 0, 0)
	}
}

// R1: the longest logs, and very many bytes.
func TestVeryLongLists(t *testing.T) {
	whole := make([]api.Entry, longest)
	for i := range whole {
		whole[i].Term = 1 + i/1000
	}
	h := api.Hard{Group: 1, Term: 2000, Log: api.Log{Base: top, BaseTerm: 1, Entries: whole}, Snap: bytes.Repeat([]byte{7}, 1<<20)}
	m := flow.Next(api.Flow{Node: 2, Next: top + 1}, 1, h, 6, 3)
	if m.Kind != appending || m.Index != top || m.Prev != 1 || !sameEntries(m.Entries, whole[:8]) {
		t.Error("the first ones of the longest log")
	}
	h.Log.Base = 0
	for _, i := range []int{1, 2, 500000, longest - 8, longest - 7, longest - 6, longest - 1, longest} {
		m = flow.Next(api.Flow{Node: 2, Next: i}, 1, h, 6, 3)
		if prev, _ := rlog.Term(h.Log, i-1); m.Index != i-1 || m.Prev != prev || !sameEntries(m.Entries, whole[i-1:min(i+7, longest)]) {
			t.Errorf("the entries from %d on: %v", i, m)
		}
	}
	m = flow.Next(api.Flow{Node: 2, Next: longest + 1}, 1, h, 6, 3)
	if m.Kind != appending || m.Prev != 1+(longest-1)/1000 || len(m.Entries) != 0 {
		t.Error("behind the longest log")
	}
	many := make([]int, 1<<16)
	h.Conf = api.Conf{Old: many, New: many[1:], Learners: many[2:]}
	m = flow.Next(api.Flow{Node: 2, Next: 0}, 1, h, 6, 3)
	if m.Kind != snapping || !bytes.Equal(m.Data, snapBytes(h)) {
		t.Errorf("a long snapshot: %d bytes", len(m.Data))
	}
}

// Nil and empty lists are the same.
func TestEmptyLists(t *testing.T) {
	nothing := append([]byte{0, 0, 0, 0, 0, 0, 0, 24}, make([]byte, 32)...)
	l := []int{1, 2, 3}
	for _, none := range [][]int{nil, {}, l[:0], l[3:]} {
		for _, empty := range [][]byte{nil, {}, nothing[:0]} {
			h := api.Hard{Log: api.Log{Base: 4, BaseTerm: 2}, Conf: api.Conf{Old: none, New: none, Learners: none}, Snap: empty}
			sends(t, api.Flow{Node: 2, Next: 4}, 1, h, 6, 3, api.Msg{Kind: 5, From: 1, To: 2, Index: 4, Prev: 2, Round: 3, Data: nothing})
			h.Log.Entries = []api.Entry{{Term: 1, Data: empty}}
			sends(t, api.Flow{Node: 2, Next: 5}, 1, h, 6, 3, api.Msg{Kind: 3, From: 1, To: 2, Index: 4, Prev: 2, Commit: 6, Round: 3, Entries: []api.Entry{{Term: 1}}})
		}
	}
	for _, none := range [][]api.Entry{nil, {}, make([]api.Entry, 0, 5), entries(8, 9)[:0], entries(8, 9)[1:]} {
		h := api.Hard{Log: api.Log{Base: 4, BaseTerm: 2, Entries: none}}
		sends(t, api.Flow{Node: 2, Next: 5}, 1, h, 6, 3, api.Msg{Kind: 3, From: 1, To: 2, Index: 4, Prev: 2, Commit: 6, Round: 3})
		sends(t, api.Flow{Node: 2, Next: 6}, 1, h, 6, 3, api.Msg{Kind: 3, From: 1, To: 2, Index: 5, Commit: 6, Round: 3})
	}
}

// fill makes a value say what no test says.
func fill(v reflect.Value) {
	switch v.Kind() {
	case reflect.Int:
		v.SetInt(7777)
	case reflect.Uint8:
		v.SetUint(0xA5)
	case reflect.Slice:
		v.Set(reflect.MakeSlice(v.Type(), 1, 1))
		fill(v.Index(0))
	case reflect.Struct:
		for i := range v.NumField() {
			fill(v.Field(i))
		}
	}
}

// roomy is a copy of a value, all lists of which have filled memory behind their ends.
func roomy[T any](x T) T {
	var copied func(v reflect.Value)
	copied = func(v reflect.Value) {
		switch v.Kind() {
		case reflect.Slice:
			n := v.Len()
			l := reflect.MakeSlice(v.Type(), n+3, n+3)
			for i := range n + 3 {
				if i < n {
					l.Index(i).Set(v.Index(i))
					copied(l.Index(i))
				} else {
					fill(l.Index(i))
				}
			}
			v.Set(l.Slice(0, n))
		case reflect.Struct:
			for i := range v.NumField() {
				copied(v.Field(i))
			}
		}
	}
	copied(reflect.ValueOf(&x).Elem())
	return x
}

// intact reports whether a value that roomy has made is as roomy makes it, with what is behind the ends of its lists.
func intact(got, fresh reflect.Value) bool {
	switch got.Kind() {
	case reflect.Slice:
		if got.Len() != fresh.Len() || got.Cap() != fresh.Cap() {
			return false
		}
		a, b := got.Slice(0, got.Cap()), fresh.Slice(0, fresh.Cap())
		for i := range a.Len() {
			if !intact(a.Index(i), b.Index(i)) {
				return false
			}
		}
	case reflect.Struct:
		for i := range got.NumField() {
			if !intact(got.Field(i), fresh.Field(i)) {
				return false
			}
		}
	default:
		return got.Equal(fresh)
	}
	return true
}

// stays holds that an argument is as it was, by a copy of it that is made anew.
func stays[T any](t *testing.T, what string, got, was T) {
	t.Helper()
	if !intact(reflect.ValueOf(got), reflect.ValueOf(roomy(was))) {
		t.Fatalf("%s: %+v, it was %+v", what, got, was)
	}
}

// span is memory from an address on, ahead of another.
type span struct{ from, to uintptr }

// memory is where the lists of a value lie, with the room behind their ends.
func memory(v reflect.Value) []span {
	var l []span
	switch v.Kind() {
	case reflect.Slice:
		if n := uintptr(v.Cap()) * v.Type().Elem().Size(); n > 0 {
			l = append(l, span{v.Pointer(), v.Pointer() + n})
		}
		for i := range v.Len() {
			l = append(l, memory(v.Index(i))...)
		}
	case reflect.Struct:
		for i := range v.NumField() {
			l = append(l, memory(v.Field(i))...)
		}
	}
	return l
}

// apart reports whether no two of some values, and no two lists of one of them, share memory.
func apart(l ...any) bool {
	var all []span
	for _, x := range l {
		all = append(all, memory(reflect.ValueOf(x))...)
	}
	slices.SortFunc(all, func(a, b span) int {
		if a.from < b.from {
			return -1
		}
		return 1
	})
	for i := 1; i < len(all); i++ {
		if all[i].from < all[i-1].to {
			return false
		}
	}
	return true
}

// R3: no call changes its arguments or the memory behind them, what lies there does not count, and what is sent is new memory.
func TestMemory(t *testing.T) {
	r := rand.New(rand.NewPCG(15, 6))
	for range 5000 {
		was := randomHard(r)
		h := roomy(was)
		f := api.Flow{Node: 2, Next: r.IntN(30), Match: 3, Round: 1}
		want := next(f, 1, was, 5, 6)
		a, b := flow.Next(f, 1, h, 5, 6), flow.Next(f, 1, h, 5, 6)
		if !sameMsg(a, want) {
			t.Fatalf("%+v, want %+v", a, want)
		}
		stays(t, "the state", h, was)
		if !apart(h, a, b) {
			t.Fatalf("Next of %v of %+v shares memory", f, h)
		}
		said := ok(2, r.IntN(30), r.IntN(5))
		said.Ok, said.Entries, said.Data = r.IntN(2) == 0, entries(5, some(r, 3, 1, 2)...), someBytes(r, 4)
		m := roomy(said)
		hearsByTheWords(t, f, m)
		stays(t, "the message", m, said)
	}
}

// R3: what was sent says the same after the arguments are changed, and the arguments do after it is changed.
func TestAnswersAreNewMemory(t *testing.T) {
	r := rand.New(rand.NewPCG(15, 7))
	for range 3000 {
		was := randomHard(r)
		h := roomy(was)
		f := api.Flow{Node: 2, Next: r.IntN(30)}
		want := next(f, 1, was, 5, 6)
		first, second := flow.Next(f, 1, h, 5, 6), flow.Next(f, 1, h, 5, 6)
		for i := range first.Data[:cap(first.Data)] {
			first.Data[:cap(first.Data)][i] = 0x5A
		}
		for _, e := range first.Entries {
			for i := range e.Data[:cap(e.Data)] {
				e.Data[:cap(e.Data)][i] = 0x5A
			}
		}
		clear(first.Entries[:cap(first.Entries)])
		stays(t, "the state", h, was)
		for i := range h.Log.Entries {
			for j := range h.Log.Entries[i].Data {
				h.Log.Entries[i].Data[j] = 0x5A
			}
			h.Log.Entries[i] = api.Entry{Term: 66}
		}
		for _, l := range [][]int{h.Conf.Old, h.Conf.New, h.Conf.Learners} {
			for i := range l {
				l[i] = 66
			}
		}
		for i := range h.Snap {
			h.Snap[i] = 0x5A
		}
		if !sameMsg(second, want) {
			t.Fatalf("%+v, want %+v", second, want)
		}
	}
}

// R3: lists of one message share nothing, even if those handed in do.
func TestSharedArguments(t *testing.T) {
	all, nodes := []byte("abcdefghijkl"), []int{1, 2, 3, 4, 5}
	e := []api.Entry{{Term: 1, Data: all[:5]}, {Term: 1, Data: all[2:7]}, {Term: 2, Data: all[2:7]}, {Term: 2, Data: all[:0]}}
	h := api.Hard{Log: api.Log{Base: 2, BaseTerm: 1, Entries: e}, Conf: api.Conf{Old: nodes[:3], New: nodes[1:4], Learners: nodes[2:]}, Snap: all}
	for i := range 9 {
		f := api.Flow{Node: 2, Next: i}
		sendsByTheWords(t, f, 1, h, 6, 3)
		if m := flow.Next(f, 1, h, 6, 3); !apart(m, all, nodes, e[:0]) {
			t.Errorf("Next of %d shares memory", i)
		}
	}
	if string(all) != "abcdefghijkl" || !slices.Equal(nodes, []int{1, 2, 3, 4, 5}) || !sameEntries(e[1:3], []api.Entry{{Term: 1, Data: []byte("cdefg")}, {Term: 2, Data: []byte("cdefg")}}) {
		t.Error("what was handed in is another one")
	}
}

// R4: the same calls have the same results, whatever came between.
func TestAnswersRecur(t *testing.T) {
	r := rand.New(rand.NewPCG(15, 8))
	for range 2000 {
		h, f := randomHard(r), api.Flow{Node: 2, Next: r.IntN(30), Match: r.IntN(30), Round: r.IntN(5)}
		m := api.Msg{Kind: appended, From: 2, Ok: r.IntN(2) == 0, Index: r.IntN(30), Round: r.IntN(9)}
		last := r.IntN(30)
		made, changed, sent := flow.New(2, last), flow.Heard(f, m), flow.Next(f, 1, h, 6, 3)
		for range 5 {
			flow.New(3, last+1)
			flow.Heard(changed, m)
			flow.Next(changed, 2, randomHard(r), 7, 4)
			if flow.New(2, last) != made || flow.Heard(f, m) != changed || !sameMsg(flow.Next(f, 1, h, 6, 3), sent) {
				t.Fatalf("%v, %+v, %+v: another answer the second time", f, m, h)
			}
		}
	}
}
