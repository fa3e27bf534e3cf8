package vote_test

import (
	"bytes"
	"math"
	"math/big"
	"math/bits"
	"math/rand/v2"
	"reflect"
	"slices"
	"testing"

	"glebe/api"
	"glebe/vote"
)

// The document's numbers, held against api's by TestLimits.
const (
	elect   = 10
	asking  = 1 // MVote
	most    = 7
	top     = 1 << 40
	longest = 1 << 20 // entries of a log
)

// every is the masks of all sets of nodes: the bit k stands for the node k+1.
const every = 1 << most

// The chapter's functions, with these very signatures.
var (
	_ func(int) int                                    = vote.Timeout
	_ func(int, int, api.Log, api.Msg) bool            = vote.Grants
	_ func(int, int, int, api.Log, api.Conf) []api.Msg = vote.Asks
)

// ends are numbers at the ends of int and of what a number may be.
var ends = []int{math.MinInt, math.MinInt + 1, -top, -1 << 32, -2, -1, 0, 1, 2, 1 << 32, top - 1, top, top + 1, math.MaxInt - 1, math.MaxInt}

// entries is entries of these terms.
func entries(terms ...int) []api.Entry {
	var l []api.Entry
	for i, term := range terms {
		l = append(l, api.Entry{Term: term, Kind: i % 3, Data: bytes.Repeat([]byte{byte(i)}, i%3)})
	}
	return l
}

// example is the log of the chapter's examples: its last entry is 7, of the term 3.
func example() api.Log { return api.Log{Base: 5, BaseTerm: 2, Entries: entries(2, 3)} }

// asks is the request of a node for a vote in a term, with a last entry.
func asks(from, term, index, lastTerm int) api.Msg {
	return api.Msg{Kind: asking, From: from, Term: term, Index: index, Prev: lastTerm}
}

// nodes is the nodes of a mask, ascending.
func nodes(mask int) []int {
	var l []int
	for ; mask > 0; mask &= mask - 1 {
		l = append(l, bits.TrailingZeros(uint(mask))+1)
	}
	return l
}

// lists is all lists of up to k numbers out of some.
func lists(k int, out ...int) [][]int {
	all := [][]int{nil}
	for from := 0; k > 0; k-- {
		to := len(all)
		for _, l := range all[from:to] {
			for _, v := range out {
				all = append(all, append(slices.Clone(l), v))
			}
		}
		from = to
	}
	return all
}

// some is a list of up to k numbers out of some.
func some(r *rand.Rand, k int, out ...int) []int {
	var l []int
	for range r.IntN(k + 1) {
		l = append(l, out[r.IntN(len(out))])
	}
	return l
}

// smallLogs is logs at several bases with all lists of up to k terms out of some.
func smallLogs(k int, out ...int) []api.Log {
	var all []api.Log
	for _, base := range []int{0, 1, 4, top} {
		for _, baseTerm := range []int{0, 2, top} {
			for _, terms := range lists(k, out...) {
				all = append(all, api.Log{Base: base, BaseTerm: baseTerm, Entries: entries(terms...)})
			}
		}
	}
	return all
}

// randomLog is a valid log.
func randomLog(r *rand.Rand) api.Log {
	return api.Log{Base: r.IntN(6), BaseTerm: r.IntN(4), Entries: entries(some(r, 8, 1, 2, 3, 4)...)}
}

// last follows the words of chapter 11, entry by entry.
func last(l api.Log) (int, int) {
	index, term := l.Base, l.BaseTerm
	for _, e := range l.Entries {
		index, term = index+1, e.Term
	}
	return index, term
}

// upToDate follows the words of the section 'Definitions': of a log whose last entry is said, against l.
func upToDate(index, term int, l api.Log) bool {
	mine, myTerm := last(l)
	if term == myTerm {
		return !(index < mine)
	}
	return term > myTerm
}

// granted follows the words of P14.2.
func granted(term, voted int, l api.Log, m api.Msg) bool {
	kind, same := m.Kind == asking, m.Term == term
	free := voted == 0 || voted == m.From
	return kind && same && free && upToDate(m.Index, m.Prev, l)
}

// requests follows the words of P14.3: the least voter above the last one, again and again.
func requests(id, group, term int, l api.Log, c api.Conf) []api.Msg {
	var all []api.Msg
	index, lastTerm := last(l)
	first, above := true, 0
	for {
		least, found := 0, false
		for _, list := range [][]int{c.Old, c.New} {
			for _, n := range list {
				if (first || n > above) && (!found || n < least) {
					least, found = n, true
				}
			}
		}
		if !found {
			return all
		}
		first, above = false, least
		if least != id {
			all = append(all, api.Msg{Kind: asking, From: id, To: least, Group: group, Term: term, Index: index, Prev: lastTerm})
		}
	}
}

func waits(t *testing.T, draw, want int) {
	t.Helper()
	if got := vote.Timeout(draw); got != want {
		t.Errorf("Timeout(%d) = %d, want %d", draw, got, want)
	}
}

func grants(t *testing.T, term, voted int, l api.Log, m api.Msg, want bool) {
	t.Helper()
	if got := vote.Grants(term, voted, l, m); got != want {
		t.Errorf("Grants(%d, %d, %v, %v) = %v", term, voted, l, m, got)
	}
}

// plain is a message in which nil and empty lists are one.
func plain(m api.Msg) api.Msg {
	if len(m.Entries) == 0 {
		m.Entries = nil
	}
	if len(m.Data) == 0 {
		m.Data = nil
	}
	return m
}

func sameMsgs(a, b []api.Msg) bool {
	return slices.EqualFunc(a, b, func(x, y api.Msg) bool { return reflect.DeepEqual(plain(x), plain(y)) })
}

func sends(t *testing.T, id, group, term int, l api.Log, c api.Conf, want []api.Msg) {
	t.Helper()
	if got := vote.Asks(id, group, term, l, c); !sameMsgs(got, want) {
		t.Errorf("Asks(%d, %d, %d, %v, %v) = %v, want %v", id, group, term, l, c, got, want)
	}
}

// receivers is to whom messages go.
func receivers(l []api.Msg) []int {
	var to []int
	for _, m := range l {
		to = append(to, m.To)
	}
	return to
}

func TestLimits(t *testing.T) {
	if api.Elect != elect || api.MVote != asking || api.MaxNodes != most || api.MaxNumber != top {
		t.Error("the limits or the kinds are other ones")
	}
}

// The chapter's examples.
func TestExamples(t *testing.T) {
	waits(t, 0, 10)
	waits(t, 9, 19)
	waits(t, 10, 10)
	waits(t, -1, 19)
	l := example()
	grants(t, 5, 0, l, asks(2, 5, 7, 3), true)
	grants(t, 5, 0, l, asks(2, 5, 6, 3), false)
	grants(t, 5, 0, l, asks(2, 5, 1, 4), true)
	grants(t, 5, 0, l, asks(2, 5, 9, 2), false)
	grants(t, 5, 2, l, asks(2, 5, 7, 3), true)
	grants(t, 5, 1, l, asks(2, 5, 7, 3), false)
	grants(t, 5, 0, l, asks(2, 6, 7, 3), false)
	if to := receivers(vote.Asks(1, 0, 0, api.Log{}, api.Conf{Old: []int{1, 2, 3}})); !slices.Equal(to, []int{2, 3}) {
		t.Errorf("Asks of 1 in Old 1 2 3: to %v", to)
	}
}

// P14.1: draws about 0 and all multiples near it, counted by hand on both sides.
func TestTimeoutAboutNought(t *testing.T) {
	want := 10
	for draw := range 3000 {
		waits(t, draw, want)
		want++
		if want == 20 {
			want = 10
		}
	}
	want = 10
	for draw := 0; draw > -3000; draw-- {
		waits(t, draw, want)
		want--
		if want == 9 {
			want = 19
		}
	}
}

// modulo is the number from 0 to n-1 that is v modulo n, in mathematical integers.
func modulo(v, n int) int {
	return int(new(big.Int).Mod(big.NewInt(int64(v)), big.NewInt(int64(n))).Int64())
}

// P14.1: draws at the ends of int, about all powers of two, and of any sort.
func TestTimeoutOfAnyDraw(t *testing.T) {
	for i := range 1000 {
		waits(t, math.MaxInt-i, 10+modulo(math.MaxInt-i, 10))
		waits(t, math.MinInt+i, 10+modulo(math.MinInt+i, 10))
	}
	for bit := range 63 {
		for i := -25; i <= 25; i++ {
			for _, draw := range []int{1<<bit + i, -1<<bit + i, 10<<(bit%60) + i} {
				waits(t, draw, 10+modulo(draw, 10))
			}
		}
	}
	r := rand.New(rand.NewPCG(1, 1))
	for range 100000 {
		draw := int(r.Uint64())
		waits(t, draw, 10+modulo(draw, 10))
	}
	waits(t, math.MaxInt, 17)
	waits(t, math.MinInt, 12)
	waits(t, math.MinInt+8, 10)
	waits(t, math.MinInt+9, 11)
	waits(t, math.MinInt+1, 13)
	waits(t, -10, 10)
	waits(t, -9, 11)
	waits(t, -11, 19)
	waits(t, -20, 10)
}

// P14.2: kinds, terms, votes and senders, each with each, about each other.
func TestGrantsNeedsAllOfIt(t *testing.T) {
	l := example()
	for kind := -1; kind <= 13; kind++ {
		for term := 4; term <= 6; term++ {
			for asked := 4; asked <= 6; asked++ {
				for voted := -1; voted <= 8; voted++ {
					for from := -1; from <= 8; from++ {
						for _, index := range []int{6, 7, 8} {
							m := api.Msg{Kind: kind, From: from, Term: asked, Index: index, Prev: 3}
							grants(t, term, voted, l, m, kind == 1 && term == asked && (voted == 0 || voted == from) && index >= 7)
						}
					}
				}
			}
		}
	}
}

// P14.2: each of the numbers may be any int.
func TestGrantsOfAnyNumbers(t *testing.T) {
	l := example()
	for _, a := range ends {
		m := asks(2, 5, 7, 3)
		m.Kind = a
		grants(t, 5, 0, l, m, a == asking)
		for _, b := range ends {
			grants(t, a, 0, l, asks(2, b, 7, 3), a == b)
			grants(t, 5, a, l, asks(b, 5, 7, 3), a == 0 || a == b)
			grants(t, 5, 0, l, asks(2, 5, a, b), b > 3 || b == 3 && a >= 7)
			grants(t, a, b, l, asks(b, a, 7, 3), true)
			grants(t, a, b, l, asks(b, a, 6, 3), false)
			grants(t, 5, 0, api.Log{Base: 3, BaseTerm: 9, Entries: entries(1, a)}, asks(2, 5, 5, b), b >= a)
			grants(t, 5, 0, api.Log{Base: 3, BaseTerm: 9, Entries: entries(1, a)}, asks(2, 5, 4, b), b > a)
		}
	}
}

// P14.2: nobody has the number 0, but a vote for it is none, and its own vote is as any other.
func TestGrantsOfNought(t *testing.T) {
	l := example()
	grants(t, 5, 0, l, asks(0, 5, 7, 3), true)
	grants(t, 5, 1, l, asks(0, 5, 7, 3), false)
	grants(t, 0, 0, l, asks(1, 0, 7, 3), true)
	grants(t, 0, 2, l, asks(1, 0, 7, 3), false)
	grants(t, 0, 0, api.Log{}, api.Msg{}, false)
	grants(t, 0, 0, api.Log{}, api.Msg{Kind: asking}, true)
	grants(t, 1, 0, api.Log{}, asks(3, 1, 0, 0), true)
	grants(t, 1, 0, api.Log{}, asks(3, 1, -1, 0), false)
	grants(t, 1, 0, api.Log{}, asks(3, 1, 0, -1), false)
	grants(t, 1, 0, api.Log{BaseTerm: 1}, asks(3, 1, 9, 0), false)
	grants(t, 1, 0, api.Log{Entries: entries(1)}, asks(3, 1, 0, 1), false)
	grants(t, 1, 0, api.Log{Entries: entries(1)}, asks(3, 1, 1, 1), true)
}

// P14.2: the last entries of many logs, and those about them and far from them.
func TestGrantsOfLogs(t *testing.T) {
	for _, l := range smallLogs(3, 0, 1, 3) {
		index, term := last(l)
		for _, i := range append([]int{index - 2, index - 1, index, index + 1, index + 2, l.Base}, ends...) {
			for _, u := range append([]int{term - 1, term, term + 1, l.BaseTerm}, ends...) {
				want := u > term
				if u == term {
					want = i >= index
				}
				grants(t, 5, 0, l, asks(2, 5, i, u), want)
				grants(t, 5, 2, l, asks(2, 5, i, u), want)
				grants(t, 5, 3, l, asks(2, 5, i, u), false)
				grants(t, 4, 0, l, asks(2, 5, i, u), false)
			}
		}
	}
}

// P14.2: of the log, nothing but the last entry's index and term counts.
func TestGrantsLooksAtTheLastEntryAlone(t *testing.T) {
	for _, l := range []api.Log{
		{Base: 7, BaseTerm: 3},
		{Base: 6, BaseTerm: 3, Entries: []api.Entry{{Term: 3}}},
		{Base: 6, BaseTerm: 9, Entries: []api.Entry{{Term: 3, Kind: 2, Data: []byte{9, 9}}}},
		{Base: 6, BaseTerm: 0, Entries: []api.Entry{{Term: 3, Kind: -5}}},
		{Base: 4, BaseTerm: 9, Entries: entries(9, 8, 3)},
		{Base: 4, BaseTerm: 0, Entries: entries(0, -1, 3)},
		{Base: 0, BaseTerm: 0, Entries: entries(1, 1, 1, 2, 9, 2, 3)},
	} {
		grants(t, 5, 0, l, asks(2, 5, 7, 3), true)
		grants(t, 5, 0, l, asks(2, 5, 6, 3), false)
		grants(t, 5, 0, l, asks(2, 5, 8, 3), true)
		grants(t, 5, 0, l, asks(2, 5, 0, 4), true)
		grants(t, 5, 0, l, asks(2, 5, 8, 2), false)
	}
}

// others is a message with one other field after the other, none of which P14.2 names.
func others(m api.Msg) []api.Msg {
	all := slices.Repeat([]api.Msg{m}, 24)
	for i, v := range []int{1, 5, -1, 9} {
		all[i].To, all[4+i].Group = v, v
		all[8+i].Commit, all[12+i].Round = v, v
	}
	all[16].Txn, all[17].Part, all[18].Ballot, all[19].Value, all[20].Seq = 7, 7, 7, 7, 7
	all[21].Ok = true
	all[22].Entries = entries(9, 9)
	all[23].Data = []byte{9}
	return all
}

// P14.2: the message's other fields do not count.
func TestGrantsLooksAtNoOtherField(t *testing.T) {
	l := example()
	for _, m := range []api.Msg{asks(2, 5, 7, 3), asks(2, 5, 6, 3), asks(2, 5, 1, 4), asks(2, 5, 9, 2), asks(3, 5, 7, 3), asks(2, 6, 7, 3), {Kind: 3, From: 2, Term: 5, Index: 7, Prev: 3}} {
		for _, other := range others(m) {
			for voted := range 4 {
				grants(t, 5, voted, l, other, granted(5, voted, l, m))
			}
		}
	}
}

// P14.2: messages and logs of any sort.
func TestGrantsFollowsTheWords(t *testing.T) {
	r := rand.New(rand.NewPCG(2, 2))
	yes := 0
	for range 200000 {
		l := randomLog(r)
		index, term := last(l)
		m := api.Msg{Kind: 1 + r.IntN(5)/4, From: r.IntN(4), Term: 4 + r.IntN(5)/4, Index: index - 1 + r.IntN(3), Prev: term - 1 + r.IntN(3)}
		voted := r.IntN(3)
		want := granted(4, voted, l, m)
		if want {
			yes++
		}
		grants(t, 4, voted, l, m, want)
	}
	if yes < 20000 {
		t.Errorf("only %d are granted", yes)
	}
}

// P14.4: a member that has voted votes for that node alone in this term, and for that one again.
func TestOneVote(t *testing.T) {
	for voted := 1; voted <= most; voted++ {
		for from := 1; from <= most; from++ {
			for term := range 4 {
				for _, l := range smallLogs(1, 1, 2) {
					index, lastTerm := last(l)
					grants(t, term, voted, l, asks(from, term, index, lastTerm), from == voted)
					grants(t, term, voted, l, asks(from, term, index+1, lastTerm), from == voted)
					grants(t, term, voted, l, asks(from, term, 0, lastTerm+1), from == voted)
				}
			}
		}
	}
}

// P14.4: members that are asked again and again, and vote as Grants says: in each term for one node at most.
func TestOneVoteOverTime(t *testing.T) {
	r := rand.New(rand.NewPCG(3, 3))
	for range 2000 {
		term, voted, l := 1, 0, randomLog(r)
		for range 60 {
			index, lastTerm := last(l)
			m := asks(1+r.IntN(5), term+r.IntN(2), index-1+r.IntN(3), lastTerm-1+r.IntN(3))
			if m.Term > term {
				term, voted = m.Term, 0
			}
			yes := vote.Grants(term, voted, l, m)
			switch {
			case yes && voted != 0 && voted != m.From:
				t.Fatalf("in the term %d for %d, and for %d", term, voted, m.From)
			case yes:
				voted = m.From
				grants(t, term, voted, l, m, true)
				m.From = voted%5 + 1
				grants(t, term, voted, l, m, false)
			}
		}
	}
}

// history is the logs of some terms: that of a term begins as that of an earlier one up to an index, and goes on with its own entries.
func history(r *rand.Rand) [][]int {
	logs := [][]int{nil}
	for term := 1; term < 6; term++ {
		from := logs[r.IntN(len(logs))]
		l := slices.Clone(from[:r.IntN(len(from)+1)])
		for range 1 + r.IntN(4) {
			l = append(l, term)
		}
		logs = append(logs, l)
	}
	return logs
}

// part is the log of one of the terms up to an index, with any base.
func part(r *rand.Rand, logs [][]int) api.Log {
	terms := logs[r.IntN(len(logs))]
	terms = terms[:r.IntN(len(terms)+1)]
	base, baseTerm := r.IntN(len(terms)+1), 0
	if base > 0 {
		baseTerm = terms[base-1]
	}
	return api.Log{Base: base, BaseTerm: baseTerm, Entries: entries(terms[base:]...)}
}

// P14.5: who is voted for has all entries of the voter's last term, or a later last term.
func TestNoVoteForAShorterLog(t *testing.T) {
	r := rand.New(rand.NewPCG(4, 4))
	yes, no := 0, 0
	for range 20000 {
		logs := history(r)
		l, other := part(r, logs), part(r, logs)
		mine, myTerm := last(l)
		index, term := last(other)
		for _, m := range vote.Asks(2, 1, 9, other, api.Conf{Old: []int{1, 2}}) {
			if !vote.Grants(9, 0, l, m) {
				no++
				continue
			}
			yes++
			if term < myTerm || term == myTerm && index < mine {
				t.Fatalf("%v votes for %v, which lacks an entry of the term %d", l, other, myTerm)
			}
		}
	}
	if yes < 5000 || no < 5000 {
		t.Errorf("%d votes, %d none", yes, no)
	}
}

// P14.5: all pairs of small logs, of which one votes for the other or the other for the one.
func TestOneOfTwoIsVotedFor(t *testing.T) {
	all := smallLogs(2, 0, 1, 3)
	pair := api.Conf{Old: []int{1, 2}}
	for _, a := range all {
		for _, b := range all {
			first, second := vote.Asks(1, 0, 6, a, pair), vote.Asks(2, 0, 6, b, pair)
			x, y := vote.Grants(6, 0, b, first[0]), vote.Grants(6, 0, a, second[0])
			i, u := last(a)
			j, v := last(b)
			if x != (u > v || u == v && i >= j) || y != (v > u || v == u && j >= i) {
				t.Fatalf("%v, %v: %v, %v", a, b, x, y)
			}
		}
	}
}

// P14.3: all sets of nodes as Old and as New, and each node as the candidate, also one that is no voter.
func TestAsksAllOtherVoters(t *testing.T) {
	l := example()
	for old := range every {
		for new := range every {
			c := api.Conf{Old: nodes(old), New: nodes(new)}
			for id := 0; id <= most+1; id++ {
				mask := old | new
				if id >= 1 && id <= most {
					mask &^= 1 << (id - 1)
				}
				if to := receivers(vote.Asks(id, 1, 2, l, c)); !slices.Equal(to, nodes(mask)) {
					t.Fatalf("Asks of %d in %v: to %v, want %v", id, c, to, nodes(mask))
				}
			}
		}
	}
}

// P14.3: every field of what is sent, by hand.
func TestAsksSaysThis(t *testing.T) {
	c := api.Conf{Old: []int{1, 2, 3}, New: []int{2, 5}, Learners: []int{7}}
	sends(t, 2, 4, 9, example(), c, []api.Msg{
		{Kind: 1, From: 2, To: 1, Group: 4, Term: 9, Index: 7, Prev: 3},
		{Kind: 1, From: 2, To: 3, Group: 4, Term: 9, Index: 7, Prev: 3},
		{Kind: 1, From: 2, To: 5, Group: 4, Term: 9, Index: 7, Prev: 3},
	})
	sends(t, 7, 0, 1, api.Log{}, c, []api.Msg{
		{Kind: 1, From: 7, To: 1, Term: 1},
		{Kind: 1, From: 7, To: 2, Term: 1},
		{Kind: 1, From: 7, To: 3, Term: 1},
		{Kind: 1, From: 7, To: 5, Term: 1},
	})
	sends(t, 3, 2, 8, api.Log{Base: 6, BaseTerm: 4}, api.Conf{Old: []int{3, 4}}, []api.Msg{{Kind: 1, From: 3, To: 4, Group: 2, Term: 8, Index: 6, Prev: 4}})
	sends(t, 3, 2, 8, api.Log{Base: 6, BaseTerm: 4, Entries: entries(5)}, api.Conf{Old: []int{3}, New: []int{4}}, []api.Msg{{Kind: 1, From: 3, To: 4, Group: 2, Term: 8, Index: 7, Prev: 5}})
	sends(t, 3, 2, 8, api.Log{Base: 6, BaseTerm: 4, Entries: entries(5, 1)}, api.Conf{New: []int{4}}, []api.Msg{{Kind: 1, From: 3, To: 4, Group: 2, Term: 8, Index: 8, Prev: 1}})
	sends(t, 1, 0, 0, example(), api.Conf{Old: []int{1}}, nil)
	sends(t, 1, 0, 0, example(), api.Conf{Old: []int{1}, New: []int{1}, Learners: []int{2, 3}}, nil)
	sends(t, 1, 0, 0, example(), api.Conf{Old: []int{1, 1}, New: []int{1}}, nil)
	sends(t, 1, 0, 0, example(), api.Conf{Learners: []int{2, 3}}, nil)
}

// P14.3: learners are not asked, but a voter is, also if it is a learner as well.
func TestAsksNoLearners(t *testing.T) {
	l := example()
	for old := range 16 {
		for new := range 16 {
			for learners := range every {
				c := api.Conf{Old: nodes(old), New: nodes(new), Learners: nodes(learners)}
				if to := receivers(vote.Asks(8, 1, 2, l, c)); !slices.Equal(to, nodes(old|new)) {
					t.Fatalf("Asks of 8 in %v: to %v", c, to)
				}
			}
		}
	}
}

// P14.3: members of any sort: in any order, twice, and no nodes at all.
func TestAsksOfAnyMembers(t *testing.T) {
	l := example()
	short := lists(3, -1, 1, 2, 9)
	for _, old := range short {
		for _, new := range lists(2, 0, 2, 1) {
			c := api.Conf{Old: old, New: new, Learners: []int{3, 1}}
			for _, id := range []int{-1, 0, 1, 2, 3} {
				sends(t, id, 1, 2, l, c, requests(id, 1, 2, l, c))
			}
		}
	}
	sends(t, 5, 1, 2, l, api.Conf{Old: []int{9, 5, 9, 2}, New: []int{5, 2, -3}}, []api.Msg{
		{Kind: 1, From: 5, To: -3, Group: 1, Term: 2, Index: 7, Prev: 3},
		{Kind: 1, From: 5, To: 2, Group: 1, Term: 2, Index: 7, Prev: 3},
		{Kind: 1, From: 5, To: 9, Group: 1, Term: 2, Index: 7, Prev: 3},
	})
	r := rand.New(rand.NewPCG(5, 5))
	out := append(nodes(every-1), ends...)
	for range 20000 {
		c := api.Conf{Old: some(r, 9, out...), New: some(r, 9, out...), Learners: some(r, 9, out...)}
		id, group, term, log := out[r.IntN(len(out))], out[r.IntN(len(out))], out[r.IntN(len(out))], randomLog(r)
		sends(t, id, group, term, log, c, requests(id, group, term, log, c))
	}
}

// P14.3: each of the numbers may be any int, and each log says its own last entry.
func TestAsksOfAnyNumbers(t *testing.T) {
	c := api.Conf{Old: []int{1, 2}, New: []int{3}}
	for _, a := range ends {
		for _, b := range ends {
			for _, id := range []int{1, 2, 3, a, b} {
				sends(t, id, a, b, example(), c, requests(id, a, b, example(), c))
			}
			sends(t, a, 1, 2, example(), api.Conf{Old: []int{a, b}}, requests(a, 1, 2, example(), api.Conf{Old: []int{a, b}}))
			log := api.Log{Base: 3, BaseTerm: 1, Entries: entries(a, b)}
			sends(t, 2, 3, 4, log, c, []api.Msg{{Kind: 1, From: 2, To: 1, Group: 3, Term: 4, Index: 5, Prev: b}, {Kind: 1, From: 2, To: 3, Group: 3, Term: 4, Index: 5, Prev: b}})
		}
	}
	for _, l := range smallLogs(4, 0, 1, 3) {
		index, term := last(l)
		sends(t, 1, 2, 3, l, api.Conf{Old: []int{1, 6}}, []api.Msg{{Kind: 1, From: 1, To: 6, Group: 2, Term: 3, Index: index, Prev: term}})
	}
}

// P14.2 and P14.3: what is asked is granted by each voter that has not voted for another one and whose log is not ahead.
func TestWhatIsAskedIsGranted(t *testing.T) {
	r := rand.New(rand.NewPCG(6, 6))
	for range 20000 {
		mine, other := randomLog(r), randomLog(r)
		id, term := 1+r.IntN(most), r.IntN(5)
		index, lastTerm := last(mine)
		for _, m := range vote.Asks(id, 1, term, mine, api.Conf{Old: nodes(r.IntN(every)), New: nodes(r.IntN(every))}) {
			grants(t, term, 0, mine, m, true)
			grants(t, term, id, mine, m, true)
			grants(t, term, m.To, mine, m, false)
			grants(t, term+1, 0, mine, m, false)
			grants(t, term, 0, other, m, upToDate(index, lastTerm, other))
		}
	}
}

// R1: no call panics, whatever the log is; nothing is promised of what it answers.
func TestNoLogPanics(t *testing.T) {
	for _, base := range ends {
		for _, baseTerm := range ends {
			for n := range 3 {
				l := api.Log{Base: base, BaseTerm: baseTerm, Entries: entries(baseTerm, base)[:n]}
				for _, v := range ends {
					vote.Grants(v, v, l, asks(v, v, base, v))
					vote.Grants(5, 0, l, asks(2, 5, v, baseTerm))
					vote.Asks(v, v, v, l, api.Conf{Old: []int{v, 1}, New: []int{base}})
				}
			}
		}
	}
}

// R1: the longest logs, and very many members.
func TestVeryLongLists(t *testing.T) {
	whole := make([]api.Entry, longest)
	for i := range whole {
		whole[i].Term = i / 1000
	}
	l := api.Log{Base: top, BaseTerm: top, Entries: whole}
	index, term := top+longest, (longest-1)/1000
	grants(t, 9, 0, l, asks(2, 9, index, term), true)
	if vote.Grants(9, 0, l, asks(2, 9, index-1, term)) || vote.Grants(9, 0, l, asks(2, 9, index, term-1)) || !vote.Grants(9, 0, l, asks(2, 9, 0, term+1)) {
		t.Error("Grants of the longest log")
	}
	const n = 1 << 17
	up, down, ones := make([]int, n), make([]int, n), make([]int, n)
	for i := range up {
		up[i], down[i], ones[i] = i+1, n-i, 1
	}
	all := vote.Asks(n/2, 1, 9, l, api.Conf{Old: down, New: up, Learners: ones})
	if to := receivers(all); !slices.Equal(to, slices.Concat(up[:n/2-1], up[n/2:])) {
		t.Errorf("Asks of very many: %d messages", len(to))
	}
	for _, m := range all {
		if m.Index != index || m.Prev != term || m.From != n/2 {
			t.Fatalf("Asks of very many: %v", m)
		}
	}
	if to := receivers(vote.Asks(2, 1, 9, l, api.Conf{Old: ones, New: ones})); !slices.Equal(to, []int{1}) {
		t.Errorf("Asks of one node, told again and again: to %d of them", len(to))
	}
}

// Nil and empty lists are the same.
func TestEmptyLists(t *testing.T) {
	for _, none := range [][]int{nil, {}, make([]int, 0, 9), nodes(every - 1)[:0]} {
		sends(t, 1, 2, 3, example(), api.Conf{Old: none, New: none, Learners: none}, nil)
		sends(t, 1, 2, 3, example(), api.Conf{Old: none, New: []int{1}, Learners: []int{2}}, nil)
		sends(t, 1, 2, 3, example(), api.Conf{Old: []int{4}, New: none, Learners: none}, []api.Msg{{Kind: 1, From: 1, To: 4, Group: 2, Term: 3, Index: 7, Prev: 3}})
		sends(t, 1, 2, 3, example(), api.Conf{Old: none, New: []int{4}, Learners: none}, []api.Msg{{Kind: 1, From: 1, To: 4, Group: 2, Term: 3, Index: 7, Prev: 3}})
	}
	for _, none := range [][]api.Entry{nil, {}, make([]api.Entry, 0, 5), entries(8, 9)[:0], entries(8, 9)[2:]} {
		l := api.Log{Base: 5, BaseTerm: 2, Entries: none}
		grants(t, 1, 0, l, asks(3, 1, 5, 2), true)
		grants(t, 1, 0, l, asks(3, 1, 4, 2), false)
		grants(t, 1, 0, l, asks(3, 1, 9, 1), false)
		sends(t, 1, 2, 3, l, api.Conf{Old: []int{2}}, []api.Msg{{Kind: 1, From: 1, To: 2, Group: 2, Term: 3, Index: 5, Prev: 2}})
	}
}

// kept is a list with numbers behind its end, so that a write there is seen.
func kept(l []int) []int { return append(slices.Clone(l), 71, 72, 73)[:len(l)] }

// keptEntries is copies of entries with further ones behind the end, and further bytes behind those of each.
func keptEntries(l []api.Entry) []api.Entry {
	var all []api.Entry
	for _, e := range append(slices.Clone(l), entries(81, 82)...) {
		all = append(all, api.Entry{Term: e.Term, Kind: e.Kind, Data: append(bytes.Clone(e.Data), 71, 72)[:len(e.Data)]})
	}
	return all[:len(l)]
}

// untouched holds that a kept list is as it was, with what is behind it.
func untouched(t *testing.T, what string, got, want []int) {
	t.Helper()
	if !slices.Equal(got[:len(got)+3], append(slices.Clone(want), 71, 72, 73)) {
		t.Fatalf("%s: %v, it was %v", what, got[:len(got)+3], want)
	}
}

// untouchedEntries holds that kept entries are as they were, with what is behind them.
func untouchedEntries(t *testing.T, what string, got, want []api.Entry) {
	t.Helper()
	fresh := keptEntries(want)
	got, fresh = got[:len(got)+2], fresh[:len(fresh)+2]
	for i, e := range got {
		whole, other := e.Data[:len(e.Data)+2], fresh[i].Data[:len(fresh[i].Data)+2]
		if e.Term != fresh[i].Term || e.Kind != fresh[i].Kind || !bytes.Equal(whole, other) {
			t.Fatalf("%s: %v, it was %v", what, e, fresh[i])
		}
	}
}

// R3: no call changes its arguments or the memory behind them; and what lies there does not count.
func TestArgumentsStay(t *testing.T) {
	r := rand.New(rand.NewPCG(7, 7))
	for range 5000 {
		was, said := randomLog(r), entries(some(r, 4, 5, 6)...)
		l, m := was, asks(r.IntN(4), 5, r.IntN(12), r.IntN(5))
		l.Entries, m.Entries, m.Data = keptEntries(was.Entries), keptEntries(said), append([]byte{1, 2}, 71)[:2]
		lists := [][]int{some(r, 6, 1, 2, 3, 7, 71), some(r, 6, 1, 2, 3, 7, 72), some(r, 6, 4, 5, 6, 73)}
		c := api.Conf{Old: kept(lists[0]), New: kept(lists[1]), Learners: kept(lists[2])}
		plainly := api.Conf{Old: lists[0], New: lists[1], Learners: lists[2]}
		voted := r.IntN(3)
		grants(t, 5, voted, l, m, granted(5, voted, was, m))
		sends(t, 3, 1, 5, l, c, requests(3, 1, 5, was, plainly))
		for i, got := range [][]int{c.Old, c.New, c.Learners} {
			untouched(t, "the members", got, lists[i])
		}
		untouchedEntries(t, "the log's entries", l.Entries, was.Entries)
		untouchedEntries(t, "the message's entries", m.Entries, said)
		if !bytes.Equal(m.Data[:3], []byte{1, 2, 71}) {
			t.Fatalf("the message's bytes: %v", m.Data[:3])
		}
	}
}

// R3: what is answered is new memory, its spare capacity too, and says the same after the arguments are changed.
func TestAnswersAreNewMemory(t *testing.T) {
	r := rand.New(rand.NewPCG(8, 8))
	for range 5000 {
		was := randomLog(r)
		l := api.Log{Base: was.Base, BaseTerm: was.BaseTerm, Entries: keptEntries(was.Entries)}
		old, new := nodes(r.IntN(every)), nodes(r.IntN(every))
		c := api.Conf{Old: kept(old), New: kept(new)}
		id := r.IntN(most + 2)
		want := requests(id, 1, 2, was, api.Conf{Old: old, New: new})
		first, second := vote.Asks(id, 1, 2, l, c), vote.Asks(id, 1, 2, l, c)
		whole := first[:cap(first)]
		for i := range whole {
			whole[i] = api.Msg{Kind: 55, To: 55, Entries: entries(55), Data: []byte{55}}
		}
		untouched(t, "Old", c.Old, old)
		untouched(t, "New", c.New, new)
		untouchedEntries(t, "the log's entries", l.Entries, was.Entries)
		for _, list := range [][]int{c.Old[:len(old)+3], c.New[:len(new)+3]} {
			for i := range list {
				list[i] = 66
			}
		}
		for i := range l.Entries {
			l.Entries[i] = api.Entry{Term: 66}
		}
		if !sameMsgs(second, want) {
			t.Fatalf("%v, want %v", second, want)
		}
	}
}

// R3: one list at two places is as good as two lists.
func TestOneListTwice(t *testing.T) {
	for mask := range every {
		l := kept(nodes(mask))
		for id := range most + 2 {
			c := api.Conf{Old: l, New: l, Learners: l}
			sends(t, id, 1, 2, example(), c, requests(id, 1, 2, example(), c))
			untouched(t, "the list", l, nodes(mask))
		}
	}
}

// R4: the same calls have the same results, whatever came between.
func TestAnswersRecur(t *testing.T) {
	r := rand.New(rand.NewPCG(9, 9))
	out := append(nodes(every-1), ends...)
	for range 2000 {
		l, c := randomLog(r), api.Conf{Old: some(r, 7, out...), New: some(r, 3, out...)}
		index, term := last(l)
		m := asks(1+r.IntN(3), 4, index-1+r.IntN(3), term-1+r.IntN(3))
		draw, id, voted := int(r.Uint64()), out[r.IntN(len(out))], r.IntN(3)
		ticks, yes, all := vote.Timeout(draw), vote.Grants(4, voted, l, m), vote.Asks(id, 1, 4, l, c)
		for range 5 {
			vote.Timeout(-draw)
			vote.Grants(4, 0, randomLog(r), m)
			vote.Asks(id, 2, 5, randomLog(r), c)
			if vote.Timeout(draw) != ticks || vote.Grants(4, voted, l, m) != yes || !sameMsgs(vote.Asks(id, 1, 4, l, c), all) {
				t.Fatalf("%d, %v, %v, %v: another answer the second time", draw, l, c, m)
			}
		}
	}
}
