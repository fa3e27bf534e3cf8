package rlog_test

import (
	"bytes"
	"math"
	"math/rand/v2"
	"slices"
	"testing"

	"glebe/api"
	"glebe/rlog"
)

// The document's numbers, held against api's by TestLimits.
const (
	top     = 1 << 40
	longest = 1 << 20 // entries of a log
)

// The chapter's functions, with these very signatures.
var (
	_ func(api.Log) (int, int)                       = rlog.Last
	_ func(api.Log, int) (int, bool)                 = rlog.Term
	_ func(api.Log, int, int) []api.Entry            = rlog.Slice
	_ func(api.Log, int, int) bool                   = rlog.Newer
	_ func(api.Log, int, []api.Entry) (api.Log, int) = rlog.Append
	_ func(api.Log, int) (api.Log, api.Errno)        = rlog.Cut
)

// ends are numbers at the ends of int and of what a number may be.
var ends = []int{math.MinInt, math.MinInt + 1, -top, -1 << 32, -2, -1, 0, 1, 1 << 32, longest, top - 1, top, top + 1, math.MaxInt - 1, math.MaxInt}

// entries is entries of these terms, each of which tells by its kind and its bytes where it is from.
func entries(mark byte, terms ...int) []api.Entry {
	var l []api.Entry
	for i, term := range terms {
		l = append(l, api.Entry{Term: term, Kind: int(mark)*100 + i, Data: bytes.Repeat([]byte{mark, byte(i)}, i%3)})
	}
	return l
}

// example is the log of the chapter's examples.
func example() api.Log { return api.Log{Base: 4, BaseTerm: 2, Entries: entries(1, 2, 3, 3)} }

func termsOf(l []api.Entry) []int {
	var terms []int
	for _, e := range l {
		terms = append(terms, e.Term)
	}
	return terms
}

func sameEntry(a, b api.Entry) bool {
	return a.Term == b.Term && a.Kind == b.Kind && bytes.Equal(a.Data, b.Data)
}

func sameEntries(a, b []api.Entry) bool { return slices.EqualFunc(a, b, sameEntry) }

func sameLog(a, b api.Log) bool {
	return a.Base == b.Base && a.BaseTerm == b.BaseTerm && sameEntries(a.Entries, b.Entries)
}

// lists is all lists of up to k numbers out of some.
func lists(k int, out ...int) [][]int {
	all := [][]int{nil}
	for from := 0; k > 0; k-- {
		to := len(all)
		for _, l := range all[from:to] {
			for _, v := range out {
				all = append(all, append(slices.Clone(l), v))
			}
		}
		from = to
	}
	return all
}

// some is a list of up to k numbers out of some.
func some(r *rand.Rand, k int, out ...int) []int {
	var l []int
	for range r.IntN(k + 1) {
		l = append(l, out[r.IntN(len(out))])
	}
	return l
}

// smallLogs is logs at several bases with all lists of up to k terms out of some.
func smallLogs(k int, out ...int) []api.Log {
	var all []api.Log
	for _, base := range []int{0, 1, 4, top - 1, top} {
		for _, baseTerm := range []int{0, 2, top} {
			for _, terms := range lists(k, out...) {
				all = append(all, api.Log{Base: base, BaseTerm: baseTerm, Entries: entries(1, terms...)})
			}
		}
	}
	return all
}

// near is the numbers about the indexes of a log, and the ends.
func near(l api.Log) []int {
	all := slices.Clone(ends)
	for i := -3; i <= len(l.Entries)+3; i++ {
		all = append(all, l.Base+i)
	}
	return all
}

// place is a log by the words of the section 'Definitions': the terms and the entries by their indexes.
type place struct {
	term  map[int]int
	entry map[int]api.Entry
	last  int
}

func placed(l api.Log) place {
	p := place{map[int]int{l.Base: l.BaseTerm}, map[int]api.Entry{}, l.Base}
	for _, e := range l.Entries {
		p.last++
		p.term[p.last], p.entry[p.last] = e.Term, e
	}
	return p
}

// slice follows the words of P11.2, index by index.
func slice(l api.Log, from, most int) []api.Entry {
	var got []api.Entry
	p := placed(l)
	for i := from; len(got) < most; i++ {
		e, ok := p.entry[i]
		if !ok {
			break
		}
		got = append(got, e)
	}
	return got
}

// appended follows the words of P11.4, entry by entry.
func appended(l api.Log, prev int, e []api.Entry) (api.Log, int) {
	p, first := placed(l), 0
	if _, ok := p.term[prev]; !ok {
		return l, 0
	}
	for i, x := range e {
		index := prev + 1 + i
		if there, ok := p.entry[index]; first == 0 && ok && there.Term == x.Term {
			continue
		}
		if first == 0 {
			for j := index; j <= p.last; j++ {
				delete(p.entry, j)
			}
			first = index
		}
		p.entry[index] = x
	}
	return api.Log{Base: l.Base, BaseTerm: l.BaseTerm, Entries: rest(p, l.Base)}, first
}

// rest is the entries behind a base, as far as there are any.
func rest(p place, base int) []api.Entry {
	var l []api.Entry
	for i := base + 1; ; i++ {
		e, ok := p.entry[i]
		if !ok {
			return l
		}
		l = append(l, e)
	}
}

// cut follows the words of P11.5.
func cut(l api.Log, base int) (api.Log, api.Errno) {
	p := placed(l)
	term, ok := p.term[base]
	if !ok {
		return api.Log{}, api.ErrRange
	}
	return api.Log{Base: base, BaseTerm: term, Entries: rest(p, base)}, api.OK
}

func asksLast(t *testing.T, l api.Log, index, term int) {
	t.Helper()
	if i, u := rlog.Last(l); i != index || u != term {
		t.Errorf("Last(%v) = %d, %d, want %d, %d", l, i, u, index, term)
	}
}

func asksTerm(t *testing.T, l api.Log, i, term int, there bool) {
	t.Helper()
	if u, ok := rlog.Term(l, i); u != term || ok != there {
		t.Errorf("Term(%v, %d) = %d, %v, want %d, %v", l, i, u, ok, term, there)
	}
}

func slicesOf(t *testing.T, l api.Log, from, most int, want []api.Entry) {
	t.Helper()
	if got := rlog.Slice(l, from, most); !sameEntries(got, want) {
		t.Errorf("Slice(%v, %d, %d) = %v, want %v", l, from, most, got, want)
	}
}

func newer(t *testing.T, l api.Log, index, term int, want bool) {
	t.Helper()
	if got := rlog.Newer(l, index, term); got != want {
		t.Errorf("Newer(%v, %d, %d) = %v", l, index, term, got)
	}
}

func appends(t *testing.T, l api.Log, prev int, e []api.Entry, want api.Log, first int) {
	t.Helper()
	if got, at := rlog.Append(l, prev, e); !sameLog(got, want) || at != first {
		t.Errorf("Append(%v, %d, %v) = %v, %d, want %v, %d", l, prev, e, got, at, want, first)
	}
}

func cuts(t *testing.T, l api.Log, base int, want api.Log, code api.Errno) {
	t.Helper()
	if got, e := rlog.Cut(l, base); !sameLog(got, want) || e != code {
		t.Errorf("Cut(%v, %d) = %v, %d, want %v, %d", l, base, got, e, want, code)
	}
}

func TestLimits(t *testing.T) {
	if api.MaxNumber != top || api.ErrRange != 3 || api.OK != 0 {
		t.Error("the limits or the errors are other ones")
	}
}

// The chapter's examples.
func TestExamples(t *testing.T) {
	l := example()
	asksLast(t, l, 7, 3)
	asksTerm(t, l, 4, 2, true)
	asksTerm(t, l, 5, 2, true)
	asksTerm(t, l, 6, 3, true)
	asksTerm(t, l, 7, 3, true)
	asksTerm(t, l, 8, 0, false)
	asksTerm(t, l, 3, 0, false)
	slicesOf(t, l, 6, 1, l.Entries[1:2])
	slicesOf(t, l, 4, 9, nil)
	slicesOf(t, l, 8, 1, nil)
	newer(t, l, 7, 3, true)
	newer(t, l, 6, 3, false)
	newer(t, l, 1, 4, true)
	newer(t, l, 9, 2, false)
	appends(t, l, 5, entries(2, 3, 3), l, 0)
	appends(t, l, 5, entries(2, 3), l, 0)
	e := entries(2, 3, 4, 4)
	appends(t, l, 5, e, api.Log{Base: 4, BaseTerm: 2, Entries: []api.Entry{l.Entries[0], l.Entries[1], e[1], e[2]}}, 7)
	appends(t, l, 8, e, l, 0)
	appends(t, l, 3, e, l, 0)
	cuts(t, l, 6, api.Log{Base: 6, BaseTerm: 3, Entries: l.Entries[2:]}, api.OK)
	cuts(t, l, 8, api.Log{}, api.ErrRange)
}

// P11.1: at every index of many logs, about them and far from them.
func TestLastAndTerm(t *testing.T) {
	for _, l := range smallLogs(4, 0, 1, 3) {
		p := placed(l)
		asksLast(t, l, l.Base+len(l.Entries), p.term[p.last])
		for _, i := range near(l) {
			term, ok := p.term[i]
			asksTerm(t, l, i, term, ok)
		}
	}
	for _, v := range ends { // an entry's term may be any number; the base's, where there are no entries, is the last one
		asksLast(t, api.Log{Base: 3, BaseTerm: 1, Entries: entries(1, 7, v)}, 5, v)
		asksTerm(t, api.Log{Base: 3, BaseTerm: 1, Entries: entries(1, 7, v)}, 5, v, true)
		asksTerm(t, api.Log{Base: 3, BaseTerm: 1, Entries: entries(1, v, 7)}, 4, v, true)
	}
	asksLast(t, api.Log{}, 0, 0)
	asksTerm(t, api.Log{}, 0, 0, true)
	asksTerm(t, api.Log{}, 1, 0, false)
	asksTerm(t, api.Log{}, -1, 0, false)
	asksLast(t, api.Log{Base: top, BaseTerm: top}, top, top)
	asksTerm(t, api.Log{Base: top, BaseTerm: top}, top, top, true)
	asksLast(t, api.Log{Base: top, BaseTerm: top, Entries: entries(1, 5)}, top+1, 5)
	asksTerm(t, api.Log{Base: top, BaseTerm: top, Entries: entries(1, 5)}, top+1, 5, true)
}

// P11.2: from every index on, and every number of entries.
func TestSlice(t *testing.T) {
	for _, l := range smallLogs(4, 1, 3) {
		for _, from := range near(l) {
			for _, most := range append([]int{2, 3, 4, 5, 6}, ends...) {
				slicesOf(t, l, from, most, slice(l, from, most))
			}
		}
	}
	l := example()
	slicesOf(t, l, 5, 3, l.Entries)
	slicesOf(t, l, 5, 2, l.Entries[:2])
	slicesOf(t, l, 5, math.MaxInt, l.Entries)
	slicesOf(t, l, 7, math.MaxInt, l.Entries[2:])
	slicesOf(t, l, 7, 1, l.Entries[2:])
	slicesOf(t, l, 5, 0, nil)
	slicesOf(t, l, 5, -1, nil)
	slicesOf(t, l, 5, math.MinInt, nil)
	slicesOf(t, l, 8, 3, nil)
	slicesOf(t, l, 4, 1, nil)
	slicesOf(t, api.Log{}, 0, 1, nil)
	slicesOf(t, api.Log{}, 1, 1, nil)
	slicesOf(t, api.Log{Entries: entries(1, 1)}, 1, 1, entries(1, 1))
	slicesOf(t, api.Log{Entries: entries(1, 1)}, 0, 1, nil)
}

// P11.3: terms and indexes about the last ones, and far from them.
func TestNewer(t *testing.T) {
	for _, l := range smallLogs(3, 0, 1, 3) {
		p := placed(l)
		lastTerm := p.term[p.last]
		for _, index := range near(l) {
			for _, term := range append([]int{lastTerm - 1, lastTerm, lastTerm + 1}, ends...) {
				want := index >= p.last
				if term != lastTerm {
					want = term > lastTerm
				}
				newer(t, l, index, term, want)
			}
		}
	}
	for _, v := range ends {
		for _, term := range ends {
			for _, index := range []int{math.MinInt, 3, 4, 5, math.MaxInt} {
				newer(t, api.Log{Base: 3, BaseTerm: 2, Entries: entries(1, v)}, index, term, term > v || term == v && index >= 4)
			}
		}
	}
	newer(t, api.Log{}, 0, 0, true)
	newer(t, api.Log{}, -1, 0, false)
	newer(t, api.Log{}, 0, -1, false)
	newer(t, api.Log{}, -1, 1, true)
	newer(t, api.Log{BaseTerm: 9, Entries: entries(1, 2)}, 1, 3, true)
	newer(t, api.Log{BaseTerm: 1, Entries: entries(1, 2)}, 2, 1, false)
}

// P11.4: all short lists of entries, behind every index of all short logs.
func TestAppend(t *testing.T) {
	more := lists(4, 1, 2)
	for _, terms := range lists(4, 1, 2) {
		for _, base := range []int{0, 4, top} {
			l := api.Log{Base: base, BaseTerm: 1, Entries: entries(1, terms...)}
			for prev := base - 2; prev <= base+len(terms)+2; prev++ {
				for _, other := range more {
					e := entries(2, other...)
					want, first := appended(l, prev, e)
					appends(t, l, prev, e, want, first)
				}
			}
		}
	}
}

// P11.4: three terms on either side, and no index that the log has.
func TestAppendOfThreeTerms(t *testing.T) {
	more := lists(3, 0, 1, 2)
	for _, l := range smallLogs(3, 0, 1, 2) {
		for _, prev := range near(l) {
			for _, other := range more {
				if len(other) != 2 && prev < l.Base-1 {
					continue
				}
				e := entries(2, other...)
				want, first := appended(l, prev, e)
				appends(t, l, prev, e, want, first)
			}
		}
	}
}

// P11.4: long lists that agree up to some place, in both directions.
func TestAppendOfLongLists(t *testing.T) {
	r := rand.New(rand.NewPCG(1, 1))
	for range 20000 {
		l := api.Log{Base: r.IntN(9), BaseTerm: r.IntN(3), Entries: entries(1, some(r, 40, 1, 2, 3)...)}
		prev := l.Base + r.IntN(len(l.Entries)+1)
		terms := termsOf(l.Entries[prev-l.Base:])
		terms = append(terms[:r.IntN(len(terms)+1)], some(r, 6, 1, 2, 3, math.MinInt, math.MaxInt)...)
		e := entries(2, terms...)
		want, first := appended(l, prev, e)
		appends(t, l, prev, e, want, first)
	}
}

// P11.4: by hand, which entry stays and which one comes.
func TestAppendKeepsWhatIsThere(t *testing.T) {
	l := example()
	a, e := l.Entries, entries(2, 2, 3, 3, 3)
	of := func(l ...api.Entry) api.Log { return api.Log{Base: 4, BaseTerm: 2, Entries: l} }
	appends(t, l, 4, nil, l, 0)
	appends(t, l, 7, nil, l, 0)
	appends(t, l, 4, e[:0], l, 0)
	appends(t, l, 4, e[:1], l, 0) // of the same term: the entry that is there stays, and so do those behind it
	appends(t, l, 4, e[:3], l, 0)
	appends(t, l, 4, e, of(a[0], a[1], a[2], e[3]), 8)
	appends(t, l, 7, e[:1], of(a[0], a[1], a[2], e[0]), 8)
	appends(t, l, 6, e[:1], of(a[0], a[1], e[0]), 7)
	appends(t, l, 6, e[:2], of(a[0], a[1], e[0], e[1]), 7) // behind the first one that is not there, the terms count no more
	appends(t, l, 4, e[1:], of(e[1], e[2], e[3]), 5)
	appends(t, l, 4, e[1:2], of(e[1]), 5)
	appends(t, l, 5, entries(2, 3, 2), of(a[0], a[1], entries(2, 3, 2)[1]), 7)
	appends(t, l, 7, entries(2, 1, 9, -5), of(append(slices.Clone(a), entries(2, 1, 9, -5)...)...), 8)
	for _, prev := range []int{math.MinInt, -1, 0, 3, 8, 9, top, math.MaxInt} {
		appends(t, l, prev, e, l, 0)
		appends(t, l, prev, nil, l, 0)
	}
	appends(t, api.Log{}, 0, nil, api.Log{}, 0)
	appends(t, api.Log{}, 0, e, api.Log{Entries: e}, 1)
	appends(t, api.Log{}, 1, e, api.Log{}, 0)
	appends(t, api.Log{}, -1, e, api.Log{}, 0)
	appends(t, api.Log{BaseTerm: 2}, 0, e[:1], api.Log{BaseTerm: 2, Entries: e[:1]}, 1)
	appends(t, api.Log{Base: top, BaseTerm: top}, top, e, api.Log{Base: top, BaseTerm: top, Entries: e}, top+1)
	appends(t, api.Log{Base: top, BaseTerm: top, Entries: a}, top, e[:1], api.Log{Base: top, BaseTerm: top, Entries: a}, 0)
}

// P11.4: whether an entry is there depends on its term alone, not on its kind or its bytes.
func TestAppendComparesTermsAlone(t *testing.T) {
	l := api.Log{Base: 1, Entries: []api.Entry{{Term: 5, Kind: 1, Data: []byte{7}}}}
	for _, e := range []api.Entry{{Term: 5}, {Term: 5, Kind: 1, Data: []byte{7}}, {Term: 5, Kind: 2, Data: []byte{7}}, {Term: 5, Kind: 1, Data: []byte{7, 8}}} {
		appends(t, l, 1, []api.Entry{e}, l, 0)
	}
	for _, e := range []api.Entry{{Term: 4, Kind: 1, Data: []byte{7}}, {Term: 6, Kind: 1, Data: []byte{7}}, {Term: -5}, {}} {
		appends(t, l, 1, []api.Entry{e}, api.Log{Base: 1, Entries: []api.Entry{e}}, 2)
	}
}

// P11.4: two terms are the same or they are not, however great they are.
func TestAppendOfAnyTerms(t *testing.T) {
	for _, there := range ends {
		l := api.Log{Base: 1, Entries: entries(1, 3, there, 3)}
		for _, term := range ends {
			e := entries(2, term, 3)
			want := api.Log{Base: 1, Entries: []api.Entry{l.Entries[0], e[0], e[1]}}
			if term == there {
				appends(t, l, 2, e, l, 0)
			} else {
				appends(t, l, 2, e, want, 3)
			}
		}
	}
}

// P11.5: every base of many logs, about them and far from them.
func TestCut(t *testing.T) {
	for _, l := range smallLogs(4, 0, 1, 3) {
		for _, base := range near(l) {
			want, code := cut(l, base)
			cuts(t, l, base, want, code)
		}
	}
	l := example()
	cuts(t, l, 4, l, api.OK)
	cuts(t, l, 5, api.Log{Base: 5, BaseTerm: 2, Entries: l.Entries[1:]}, api.OK)
	cuts(t, l, 7, api.Log{Base: 7, BaseTerm: 3}, api.OK)
	cuts(t, l, 3, api.Log{}, api.ErrRange)
	cuts(t, api.Log{}, 0, api.Log{}, api.OK)
	cuts(t, api.Log{}, 1, api.Log{}, api.ErrRange)
	cuts(t, api.Log{}, -1, api.Log{}, api.ErrRange)
	cuts(t, api.Log{Base: top, BaseTerm: top}, top, api.Log{Base: top, BaseTerm: top}, api.OK)
	cuts(t, api.Log{Base: top, BaseTerm: 1, Entries: entries(1, math.MinInt, 6)}, top+1, api.Log{Base: top + 1, BaseTerm: math.MinInt, Entries: entries(1, 0, 6)[1:]}, api.OK)
}

// R2: beside ErrRange the log is the zero value.
func TestCutRefused(t *testing.T) {
	for _, l := range smallLogs(2, 1, 3) {
		for _, base := range near(l) {
			got, e := rlog.Cut(l, base)
			if e != api.OK && (got.Base != 0 || got.BaseTerm != 0 || len(got.Entries) != 0 || e != api.ErrRange) {
				t.Errorf("Cut(%v, %d) = %v, %d", l, base, got, e)
			}
		}
	}
}

// randomLog is a valid log.
func randomLog(r *rand.Rand, mark byte) api.Log {
	return api.Log{Base: r.IntN(6), BaseTerm: r.IntN(4), Entries: entries(mark, some(r, 8, 1, 2, 3, 4)...)}
}

// P11.6: what was appended is there, what is ahead of it is unchanged, and the second time changes nothing.
func TestAppendedEntriesAreThere(t *testing.T) {
	r := rand.New(rand.NewPCG(2, 2))
	for range 20000 {
		l := randomLog(r, 1)
		prev, e := l.Base+r.IntN(len(l.Entries)+1), entries(2, some(r, 8, 1, 2, 3, 4)...)
		got, _ := rlog.Append(l, prev, e)
		for i, x := range e {
			asksTerm(t, got, prev+1+i, x.Term, true)
		}
		for i := l.Base; i <= prev; i++ {
			term, _ := rlog.Term(l, i)
			asksTerm(t, got, i, term, true)
			slicesOf(t, got, i, 1, rlog.Slice(l, i, 1))
		}
		if got.Base != l.Base || got.BaseTerm != l.BaseTerm {
			t.Errorf("Append(%v, %d, %v) = %v: another base", l, prev, e, got)
		}
		appends(t, got, prev, e, got, 0)
		for n := range e {
			appends(t, got, prev, e[:n], got, 0)
			appends(t, got, prev+n, e[n:], got, 0)
		}
	}
}

// P11.7: behind Cut each remaining index has its term and its entry, and the others have none.
func TestCutKeepsTheRest(t *testing.T) {
	r := rand.New(rand.NewPCG(3, 3))
	for range 20000 {
		l := randomLog(r, 1)
		last, lastTerm := rlog.Last(l)
		base := l.Base + r.IntN(len(l.Entries)+1)
		got, e := rlog.Cut(l, base)
		if e != api.OK {
			t.Fatalf("Cut(%v, %d): %d", l, base, e)
		}
		asksLast(t, got, last, lastTerm)
		for i := base; i <= last; i++ {
			term, _ := rlog.Term(l, i)
			asksTerm(t, got, i, term, true)
			if i > base {
				slicesOf(t, got, i, 1, rlog.Slice(l, i, 1))
			}
		}
		asksTerm(t, got, base-1, 0, false)
		slicesOf(t, got, base, 1, nil)
		asksTerm(t, got, last+1, 0, false)
		next := base + r.IntN(last-base+1)
		want, _ := rlog.Cut(l, next)
		cuts(t, got, next, want, api.OK)
	}
}

// P11.8: of two logs, one is at least as up to date as the other one.
func TestOneOfTwoIsNewer(t *testing.T) {
	all := smallLogs(2, 0, 1, 3)
	for _, a := range all {
		i, u := rlog.Last(a)
		newer(t, a, i, u, true)
		for _, b := range all {
			j, v := rlog.Last(b)
			x, y := rlog.Newer(b, i, u), rlog.Newer(a, j, v)
			if !x && !y || x && y && (i != j || u != v) {
				t.Fatalf("%v, %v: %v, %v", a, b, x, y)
			}
		}
	}
}

// Logs that follow one another: appended, cut and asked, again and again.
func TestLogsOverTime(t *testing.T) {
	r := rand.New(rand.NewPCG(4, 4))
	for range 300 {
		l := randomLog(r, 1)
		for n := range 60 {
			prev, e := l.Base-1+r.IntN(len(l.Entries)+3), entries(byte(n), some(r, 5, 1, 2, 3)...)
			want, first := appended(l, prev, e)
			appends(t, l, prev, e, want, first)
			l, _ = rlog.Append(l, prev, e)
			base := l.Base - 1 + r.IntN(len(l.Entries)+3)
			next, code := cut(l, base)
			cuts(t, l, base, next, code)
			if code == api.OK && r.IntN(5) == 0 {
				l, _ = rlog.Cut(l, base)
			}
			slicesOf(t, l, base, n%7, slice(l, base, n%7))
		}
	}
}

// R1: no call panics, whatever the log is; nothing is promised of what it answers.
func TestNoLogPanics(t *testing.T) {
	for _, base := range ends {
		for _, baseTerm := range []int{math.MinInt, -1, 0, math.MaxInt} {
			for n := range 4 {
				l := api.Log{Base: base, BaseTerm: baseTerm, Entries: entries(1, 1, 1, 2)[:n]}
				for _, i := range near(l) {
					rlog.Last(l)
					rlog.Term(l, i)
					rlog.Cut(l, i)
					rlog.Newer(l, i, baseTerm)
					for _, most := range ends {
						rlog.Slice(l, i, most)
					}
					for m := range 4 {
						rlog.Append(l, i, entries(2, 1, 2, 2)[:m])
					}
				}
			}
		}
	}
}

// R1: the longest logs, and as many entries again.
func TestLongestLogs(t *testing.T) {
	whole := make([]api.Entry, longest)
	for i := range whole {
		whole[i] = api.Entry{Term: i / 1000, Kind: i}
	}
	l := api.Log{Base: top, BaseTerm: 0, Entries: whole}
	last := top + longest
	if i, u := rlog.Last(l); i != last || u != (longest-1)/1000 {
		t.Errorf("Last: %d, %d", i, u)
	}
	if u, ok := rlog.Term(l, last); u != (longest-1)/1000 || !ok {
		t.Errorf("Term: %d, %v", u, ok)
	}
	if u, ok := rlog.Term(l, last+1); u != 0 || ok {
		t.Errorf("Term behind the end: %d, %v", u, ok)
	}
	if s := rlog.Slice(l, top+1, math.MaxInt); !sameEntries(s, whole) {
		t.Errorf("Slice: %d entries", len(s))
	}
	if s := rlog.Slice(l, last, longest); !sameEntries(s, whole[longest-1:]) {
		t.Errorf("Slice of the last one: %d entries", len(s))
	}
	if got, at := rlog.Append(l, top, whole); at != 0 || !sameLog(got, l) {
		t.Errorf("Append of the same: %d", at)
	}
	if got, at := rlog.Append(l, last, whole); at != last+1 || !sameEntries(got.Entries, append(slices.Clone(whole), whole...)) {
		t.Errorf("Append behind the end: %d", at)
	}
	if got, at := rlog.Append(l, last-1, []api.Entry{{Term: -1}}); at != last || len(got.Entries) != longest || got.Entries[longest-1].Term != -1 {
		t.Errorf("Append at the end: %d", at)
	}
	if got, e := rlog.Cut(l, last); e != api.OK || got.Base != last || got.BaseTerm != (longest-1)/1000 || len(got.Entries) != 0 {
		t.Errorf("Cut: %d, %d, %d entries, %d", got.Base, got.BaseTerm, len(got.Entries), e)
	}
	if got, e := rlog.Cut(l, top+1); e != api.OK || !sameEntries(got.Entries, whole[1:]) {
		t.Errorf("Cut of one: %d", e)
	}
}

// A nil list and an empty one are the same, of entries and of bytes.
func TestEmptyLists(t *testing.T) {
	for _, none := range [][]api.Entry{nil, {}, make([]api.Entry, 0, 5), entries(3, 1, 2)[:0], entries(3, 1, 2)[2:]} {
		l := api.Log{Base: 4, BaseTerm: 2, Entries: none}
		asksLast(t, l, 4, 2)
		for _, i := range []int{3, 5} {
			asksTerm(t, l, i, 0, false)
			cuts(t, l, i, api.Log{}, api.ErrRange)
			appends(t, l, i, entries(2, 1), l, 0)
			slicesOf(t, l, i, 1, nil)
		}
		asksTerm(t, l, 4, 2, true)
		cuts(t, l, 4, l, api.OK)
		slicesOf(t, l, 4, 1, nil)
		appends(t, l, 4, none, l, 0)
		appends(t, l, 4, entries(2, 1), api.Log{Base: 4, BaseTerm: 2, Entries: entries(2, 1)}, 5)
		for prev := 3; prev <= 8; prev++ {
			appends(t, example(), prev, none, example(), 0)
		}
	}
	for _, none := range [][]byte{nil, {}, make([]byte, 0, 5), []byte("abc")[3:]} {
		e := []api.Entry{{Term: 1, Kind: 2, Data: none}}
		l := api.Log{Entries: e}
		slicesOf(t, l, 1, 1, e)
		cuts(t, l, 0, l, api.OK)
		appends(t, l, 1, e, api.Log{Entries: append(e, e[0])}, 2)
		appends(t, api.Log{}, 0, e, l, 1)
	}
}

// kept is copies of entries with further ones behind the end, and further bytes behind those of each, so that a write there is seen.
func kept(l []api.Entry) []api.Entry {
	var all []api.Entry
	for _, e := range l {
		all = append(all, api.Entry{Term: e.Term, Kind: e.Kind, Data: append(bytes.Clone(e.Data), 71, 72, 73)[:len(e.Data)]})
	}
	for i := range 3 {
		all = append(all, api.Entry{Term: 81 + i, Kind: 91, Data: []byte{91, 71, 72, 73}[:1]})
	}
	return all[:len(l)]
}

// untouched holds that kept entries are as they were, with what is behind them.
func untouched(t *testing.T, what string, got, want []api.Entry) {
	t.Helper()
	fresh := kept(want)
	if len(got) != len(want) || !sameEntries(got[:len(got)+3], fresh[:len(fresh)+3]) {
		t.Fatalf("%s: %v, it was %v", what, got[:len(got)+3], fresh[:len(fresh)+3])
	}
	for _, e := range got[:len(got)+3] {
		if behind := e.Data[len(e.Data) : len(e.Data)+3]; !bytes.Equal(behind, []byte{71, 72, 73}) {
			t.Fatalf("%s: %v behind the bytes of %v", what, behind, e)
		}
	}
}

// spoil writes on all memory of entries and of their bytes, the spare capacity too.
func spoil(l []api.Entry) {
	whole := l[:cap(l)]
	for i, e := range whole {
		data := e.Data[:cap(e.Data)]
		for j := range data {
			data[j] = 55
		}
		whole[i] = api.Entry{Term: 55, Kind: 55, Data: []byte{55}}
	}
}

// answers is the entries that each call answers that has any.
func answers(l api.Log, prev int, e []api.Entry) [][]api.Entry {
	got, _ := rlog.Append(l, prev, e)
	behind, _ := rlog.Cut(l, prev)
	return [][]api.Entry{got.Entries, behind.Entries, rlog.Slice(l, prev+1, 3), rlog.Slice(l, l.Base+1, math.MaxInt)}
}

// R3: no call changes its arguments or the memory behind them; and what lies there does not count.
func TestArgumentsStay(t *testing.T) {
	r := rand.New(rand.NewPCG(5, 5))
	for range 10000 {
		was, more := randomLog(r, 1), entries(2, some(r, 8, 1, 2, 3, 81, 82)...)
		l, e := was, kept(more)
		l.Entries = kept(was.Entries)
		for _, i := range []int{l.Base - 1, l.Base + r.IntN(len(l.Entries)+1), l.Base + len(l.Entries), l.Base + len(l.Entries) + 1} {
			want, first := appended(was, i, more)
			appends(t, l, i, e, want, first)
			untouched(t, "the log's entries, behind Append", l.Entries, was.Entries)
			untouched(t, "the entries, behind Append", e, more)
			want, code := cut(was, i)
			cuts(t, l, i, want, code)
			slicesOf(t, l, i, 5, slice(was, i, 5))
			p := placed(was)
			term, ok := p.term[i]
			asksTerm(t, l, i, term, ok)
			asksLast(t, l, p.last, p.term[p.last])
			rlog.Newer(l, i, term)
			untouched(t, "the log's entries", l.Entries, was.Entries)
		}
	}
}

// R3: what is answered is new memory, its spare capacity and that of each entry's bytes too.
func TestAnswersAreNewMemory(t *testing.T) {
	r := rand.New(rand.NewPCG(6, 6))
	for range 10000 {
		was, more := randomLog(r, 1), entries(2, some(r, 8, 1, 2, 3)...)
		prev := was.Base - 1 + r.IntN(len(was.Entries)+3)
		want := answers(was, prev, more)
		l, e := was, kept(more)
		l.Entries = kept(was.Entries)
		first := answers(l, prev, e)
		second := answers(l, prev, e)
		for _, got := range first {
			spoil(got)
		}
		untouched(t, "the log's entries", l.Entries, was.Entries)
		untouched(t, "the entries", e, more)
		spoil(l.Entries)
		spoil(e)
		for i, got := range second {
			if !sameEntries(got, want[i]) {
				t.Fatalf("answer %d of %v, %d, %v: %v, it was %v", i, was, prev, more, got, want[i])
			}
		}
	}
}

// R3: no two entries of one answer share bytes or room for them, even if those handed in do.
func TestEntriesShareNoBytes(t *testing.T) {
	r := rand.New(rand.NewPCG(7, 7))
	for range 5000 {
		bytesOfAll := []byte("abcdefghijkl")
		share := func(l []api.Entry) []api.Entry {
			for i := range l {
				from := r.IntN(len(bytesOfAll))
				l[i].Data = bytesOfAll[from : from+r.IntN(len(bytesOfAll)-from+1)]
			}
			return l
		}
		l := api.Log{Base: 3, BaseTerm: 1, Entries: share(entries(1, some(r, 6, 1, 2)...))}
		e := share(entries(2, some(r, 6, 1, 2)...))
		for _, got := range answers(l, l.Base+r.IntN(len(l.Entries)+1), e) {
			was := make([][]byte, len(got))
			for i := range got {
				was[i] = bytes.Clone(got[i].Data)
			}
			for i := range got {
				if !bytes.Equal(got[i].Data, was[i]) {
					t.Fatalf("the bytes of entry %d: %q, they were %q", i, got[i].Data, was[i])
				}
				data := got[i].Data[:cap(got[i].Data)]
				for j := range data {
					data[j] = 55
				}
			}
			if string(bytesOfAll) != "abcdefghijkl" {
				t.Fatalf("the bytes handed in: %q", bytesOfAll)
			}
		}
	}
}

// R3: entries of the log itself as those to append are as good as copies of them.
func TestAppendOfTheLogsOwnEntries(t *testing.T) {
	for _, terms := range lists(5, 1, 2) {
		was := api.Log{Base: 2, Entries: entries(1, terms...)}
		for from := range len(terms) + 1 {
			for to := from; to <= len(terms); to++ {
				for prev := 1; prev <= len(terms)+3; prev++ {
					l := was
					l.Entries = kept(was.Entries)
					want, first := appended(was, prev, was.Entries[from:to])
					appends(t, l, prev, l.Entries[from:to], want, first)
					untouched(t, "the log's entries", l.Entries, was.Entries)
				}
			}
		}
	}
}

// The section 'Ways': two logs that are made of one, and a log with room behind its end, do not overwrite each other's entries.
func TestAppendOverwritesNobodysEntries(t *testing.T) {
	l := example()
	l.Entries = slices.Grow(l.Entries, 20)
	short := l
	short.Entries = l.Entries[:1]
	left, _ := rlog.Append(short, 5, entries(2, 8, 8))
	right, _ := rlog.Append(short, 5, entries(3, 9, 9, 9))
	again, _ := rlog.Append(left, 7, entries(4, 7))
	other, _ := rlog.Append(left, 7, entries(5, 6))
	for _, x := range []struct {
		l    api.Log
		want []int
	}{{l, []int{2, 3, 3}}, {short, []int{2}}, {left, []int{2, 8, 8}}, {right, []int{2, 9, 9, 9}}, {again, []int{2, 8, 8, 7}}, {other, []int{2, 8, 8, 6}}} {
		if got := termsOf(x.l.Entries); !slices.Equal(got, x.want) {
			t.Errorf("%v, want %v", got, x.want)
		}
	}
	if !sameLog(l, example()) {
		t.Errorf("the log: %v", l)
	}
}

// R4: the same calls have the same results, whatever came between.
func TestAnswersRecur(t *testing.T) {
	r := rand.New(rand.NewPCG(8, 8))
	for range 3000 {
		l, e := randomLog(r, 1), entries(2, some(r, 6, 1, 2, 3)...)
		i := l.Base - 1 + r.IntN(len(l.Entries)+3)
		want := answers(l, i, e)
		_, first := rlog.Append(l, i, e)
		_, code := rlog.Cut(l, i)
		for range 4 {
			answers(randomLog(r, 3), i, entries(4, 9))
			_, at := rlog.Append(l, i, e)
			_, c := rlog.Cut(l, i)
			if at != first || c != code {
				t.Fatalf("%v, %d, %v: another answer the second time", l, i, e)
			}
			for j, got := range answers(l, i, e) {
				if !sameEntries(got, want[j]) {
					t.Fatalf("%v, %d, %v: %v the second time, it was %v", l, i, e, got, want[j])
				}
			}
		}
	}
}
