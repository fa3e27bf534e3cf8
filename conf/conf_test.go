package conf_test

import (
	"encoding/binary"
	"math"
	"math/bits"
	"math/rand/v2"
	"reflect"
	"slices"
	"testing"

	"glebe/api"
	"glebe/conf"
	"glebe/image"
	"glebe/quorum"
)

// The document's numbers, held against api's by TestLimits.
const (
	most     = 7
	top      = 1 << 40
	longest  = 1 << 20 // entries of a log
	confKind = 2       // EConf

	none  = 6  // ErrNone
	twice = 7  // ErrTwice
	busy  = 11 // ErrBusy
	node  = 28 // ErrNode
	wrong = 29 // ErrConf
)

// The masks of sets of nodes: the bit k stands for the node k+1.
const (
	every = 1 << most // all sets
	whole = every - 1 // the one with all nodes
)

// The chapter's functions, with these very signatures.
var (
	_ func(api.Hard) (api.Conf, int)            = conf.Of
	_ func(api.Conf, int) (api.Conf, api.Errno) = conf.Add
	_ func(api.Conf, int) (api.Conf, api.Errno) = conf.Drop
	_ func(api.Conf, []int) (api.Conf, bool)    = conf.Next
)

// far are numbers that are no nodes.
var far = []int{math.MinInt, math.MinInt + 1, -top, -1 << 32, -7, -1, 0, 8, 9, 63, 64, 65, 100, 1<<32 + 1, top, math.MaxInt - 1, math.MaxInt}

// nodes is the nodes of a mask, ascending.
func nodes(mask int) []int {
	var l []int
	for ; mask > 0; mask &= mask - 1 {
		l = append(l, bits.TrailingZeros(uint(mask))+1)
	}
	return l
}

// mask is the mask of a list of nodes.
func mask(l []int) int {
	m := 0
	for _, n := range l {
		m |= 1 << (n - 1)
	}
	return m
}

// lists is all lists of up to k numbers out of some.
func lists(k int, out ...int) [][]int {
	all := [][]int{nil}
	for from := 0; k > 0; k-- {
		to := len(all)
		for _, l := range all[from:to] {
			for _, v := range out {
				all = append(all, append(slices.Clone(l), v))
			}
		}
		from = to
	}
	return all
}

// some is a list of up to k numbers out of some.
func some(r *rand.Rand, k int, out ...int) []int {
	var l []int
	for range r.IntN(k + 1) {
		l = append(l, out[r.IntN(len(out))])
	}
	return l
}

// of is members by three lists.
func of(old, new, learners []int) api.Conf { return api.Conf{Old: old, New: new, Learners: learners} }

// sound is all valid members among the nodes up to n.
func sound(n int) []api.Conf {
	var all []api.Conf
	size := 1 << n
	for old := 1; old < size; old++ {
		for new := range size {
			for learners := range size {
				if learners&(old|new) == 0 {
					all = append(all, of(nodes(old), nodes(new), nodes(learners)))
				}
			}
		}
	}
	return all
}

// someSound is valid members; most of them are being changed.
func someSound(r *rand.Rand) api.Conf {
	old, new := 1+r.IntN(every-1), r.IntN(every)
	if r.IntN(2) == 0 {
		new = 0
	}
	learners := r.IntN(every) &^ (old | new)
	if r.IntN(3) == 0 {
		learners = 0
	}
	return of(nodes(old), nodes(new), nodes(learners))
}

// anyConf is members that are hardly ever valid.
func anyConf(r *rand.Rand) api.Conf {
	return of(some(r, 4, 1, 2, 3, 7, 8, 0), some(r, 3, 2, 4, 5, -1), some(r, 3, 3, 6, 7, 9))
}

func has(l []int, n int) bool {
	for _, v := range l {
		if v == n {
			return true
		}
	}
	return false
}

// valid follows chapter 10's section 'Definitions'.
func valid(c api.Conf) bool {
	if len(c.Old) == 0 {
		return false
	}
	for _, l := range [][]int{c.Old, c.New, c.Learners} {
		for i, n := range l {
			if n < 1 || n > most || i > 0 && l[i-1] >= n {
				return false
			}
		}
	}
	for _, n := range c.Learners {
		if has(c.Old, n) || has(c.New, n) {
			return false
		}
	}
	return true
}

// changing follows the chapter's section 'Definitions'.
func changing(c api.Conf) bool { return len(c.New) != 0 || len(c.Learners) != 0 }

// add follows the words of P16.2.
func add(c api.Conf, n int) (api.Conf, api.Errno) {
	if !valid(c) {
		return api.Conf{}, wrong
	}
	if !(1 <= n && n <= most) {
		return api.Conf{}, node
	}
	if changing(c) {
		return api.Conf{}, busy
	}
	if has(c.Old, n) {
		return api.Conf{}, twice
	}
	return of(c.Old, nil, []int{n}), 0
}

// drop follows the words of P16.3.
func drop(c api.Conf, n int) (api.Conf, api.Errno) {
	if !valid(c) {
		return api.Conf{}, wrong
	}
	if !(1 <= n && n <= most) {
		return api.Conf{}, node
	}
	if changing(c) {
		return api.Conf{}, busy
	}
	if !has(c.Old, n) {
		return api.Conf{}, none
	}
	if len(c.Old) == 1 {
		return api.Conf{}, wrong
	}
	return of(c.Old, nodes(mask(c.Old)&^(1<<(n-1))), nil), 0
}

// next follows the words of P16.4.
func next(c api.Conf, far []int) (api.Conf, bool) {
	if !valid(c) || !changing(c) {
		return c, false
	}
	if len(c.New) != 0 {
		return of(c.New, nil, nil), true
	}
	for _, n := range c.Learners {
		if !has(far, n) {
			return c, false
		}
	}
	return of(c.Old, nodes(mask(c.Old)|mask(c.Learners)), nil), true
}

// newest follows the words of P16.1, from the first entry on.
func newest(h api.Hard) (api.Conf, int) {
	c, index := h.Conf, h.Log.Base
	for i, e := range h.Log.Entries {
		if e.Kind != confKind {
			continue
		}
		if told, no := image.GetConf(e.Data); no == 0 {
			c, index = told, h.Log.Base+i+1
		}
	}
	return c, index
}

func same(a, b api.Conf) bool {
	return slices.Equal(a.Old, b.Old) && slices.Equal(a.New, b.New) && slices.Equal(a.Learners, b.Learners)
}

// numbers is the encoding of members, by the definitions of the chapters 2 and 13.
func numbers(c api.Conf) []byte {
	var b []byte
	for _, l := range [][]int{c.Old, c.New, c.Learners} {
		b = binary.BigEndian.AppendUint64(b, uint64(len(l)))
		for _, n := range l {
			b = binary.BigEndian.AppendUint64(b, uint64(n))
		}
	}
	return b
}

// tells is an entry that tells members.
func tells(c api.Conf) api.Entry { return api.Entry{Term: 1, Kind: confKind, Data: numbers(c)} }

// hard is a state at a base, with members there.
func hard(base int, c api.Conf, e ...api.Entry) api.Hard {
	return api.Hard{Group: 1, Term: 5, Vote: 2, Log: api.Log{Base: base, BaseTerm: 1, Entries: e}, Conf: c, Snap: []byte{7}}
}

func finds(t *testing.T, h api.Hard, want api.Conf, at int) {
	t.Helper()
	if got, index := conf.Of(h); !same(got, want) || index != at {
		t.Errorf("Of(%+v) = %v, %d, want %v, %d", h, got, index, want, at)
	}
}

func findsByTheWords(t *testing.T, h api.Hard) {
	t.Helper()
	want, at := newest(h)
	finds(t, h, want, at)
}

func adds(t *testing.T, c api.Conf, n int, want api.Conf, no api.Errno) {
	t.Helper()
	if got, e := conf.Add(c, n); !same(got, want) || e != no {
		t.Errorf("Add(%v, %d) = %v, %d, want %v, %d", c, n, got, e, want, no)
	}
}

func addsByTheWords(t *testing.T, c api.Conf, n int) {
	t.Helper()
	want, no := add(c, n)
	adds(t, c, n, want, no)
}

func drops(t *testing.T, c api.Conf, n int, want api.Conf, no api.Errno) {
	t.Helper()
	if got, e := conf.Drop(c, n); !same(got, want) || e != no {
		t.Errorf("Drop(%v, %d) = %v, %d, want %v, %d", c, n, got, e, want, no)
	}
}

func dropsByTheWords(t *testing.T, c api.Conf, n int) {
	t.Helper()
	want, no := drop(c, n)
	drops(t, c, n, want, no)
}

func goesOn(t *testing.T, c api.Conf, far []int, want api.Conf, ok bool) {
	t.Helper()
	if got, moves := conf.Next(c, far); !same(got, want) || moves != ok {
		t.Errorf("Next(%v, %v) = %v, %v, want %v, %v", c, far, got, moves, want, ok)
	}
}

func goesOnByTheWords(t *testing.T, c api.Conf, far []int) {
	t.Helper()
	want, ok := next(c, far)
	goesOn(t, c, far, want, ok)
}

func TestLimits(t *testing.T) {
	if api.MaxNodes != most || api.MaxNumber != top || api.EConf != confKind || api.OK != 0 {
		t.Error("the limits or the kinds are other ones")
	}
	if api.ErrNone != none || api.ErrTwice != twice || api.ErrBusy != busy || api.ErrNode != node || api.ErrConf != wrong {
		t.Error("the errors are other ones")
	}
}

// The chapter's examples.
func TestExamples(t *testing.T) {
	three := of([]int{1, 2, 3}, nil, nil)
	first := of([]int{1, 2, 3}, nil, []int{4})
	adds(t, three, 4, first, 0)
	adds(t, three, 2, api.Conf{}, api.ErrTwice)
	adds(t, three, 8, api.Conf{}, api.ErrNode)
	adds(t, of([]int{1}, nil, []int{2}), 5, api.Conf{}, api.ErrBusy)
	second := of([]int{1, 2, 3}, []int{1, 2, 3, 4}, nil)
	goesOn(t, first, []int{1, 2}, first, false)
	goesOn(t, first, []int{4}, second, true)
	goesOn(t, second, nil, of([]int{1, 2, 3, 4}, nil, nil), true)
	drops(t, three, 3, of([]int{1, 2, 3}, []int{1, 2}, nil), 0)
	drops(t, of([]int{3}, nil, nil), 3, api.Conf{}, api.ErrConf)
	drops(t, of([]int{3}, nil, nil), 4, api.Conf{}, api.ErrNone)
}

// P16.1: the last entry that tells members counts, whatever the others are.
func TestOf(t *testing.T) {
	base := of([]int{1}, nil, nil)
	a, b, c := of([]int{1}, nil, []int{2}), of([]int{1}, []int{1, 2}, nil), of([]int{1, 2}, nil, nil)
	other := api.Entry{Term: 1, Kind: api.EOp, Data: []byte{7}}
	finds(t, hard(0, base), base, 0)
	finds(t, hard(9, base), base, 9)
	finds(t, hard(9, base, other), base, 9)
	finds(t, hard(9, base, tells(a)), a, 10)
	finds(t, hard(9, base, tells(a), tells(b)), b, 11)
	finds(t, hard(9, base, tells(b), tells(a)), a, 11)
	finds(t, hard(9, base, tells(a), tells(b), other, other), b, 11)
	finds(t, hard(9, base, other, tells(a), other, tells(c), other), c, 13)
	finds(t, hard(9, base, other, other, other, tells(a)), a, 13)
	finds(t, hard(9, base, tells(a), other, other, other), a, 10)
	finds(t, hard(0, c, tells(base)), base, 1)
	finds(t, hard(0, base, tells(base)), base, 1)
	finds(t, hard(0, base, tells(a), tells(a), tells(a)), a, 3)
	finds(t, hard(top, base), base, top)
	finds(t, hard(top, base, tells(a)), a, top+1)
	finds(t, hard(top, base, tells(a), other, tells(b)), b, top+3)
	finds(t, hard(top-1, base, tells(a), other), a, top)
}

// P16.1: entries of other kinds tell no members, even if their bytes would.
func TestOfKinds(t *testing.T) {
	base, other := of([]int{1}, nil, nil), of([]int{1, 2}, nil, nil)
	kinds := append([]int{1, 3, 4, 5, 6, -2, 10, 66, 258, 1<<16 + 2, 1<<32 + 2, 2 - 1<<32, math.MinInt + 2}, far...)
	for _, kind := range kinds {
		e := tells(other)
		e.Kind = kind
		finds(t, hard(4, base, e), base, 4)
		finds(t, hard(4, base, e, tells(other), e), other, 6)
		finds(t, hard(4, base, tells(other), e, e), other, 5)
	}
	for _, term := range append([]int{1, 2, 3, 4, 5, 6}, far...) {
		e := tells(other)
		e.Term = term
		finds(t, hard(4, base, e), other, 5)
	}
}

// P16.1: entries whose bytes image.GetConf rejects tell no members; those ahead of them, or at the base, stay.
func TestOfRejectedBytes(t *testing.T) {
	base, other := of([]int{1}, nil, nil), of([]int{1, 2}, []int{2, 3}, []int{4})
	right := numbers(other)
	var bad [][]byte
	for i := range right {
		bad = append(bad, right[:i])
	}
	bad = append(bad, append(slices.Clone(right), 0), append(slices.Clone(right), right...))
	for _, c := range []api.Conf{
		{}, of(nil, []int{1}, nil), of(nil, nil, []int{1}), of([]int{2, 1}, nil, nil), of([]int{1, 1}, nil, nil), of([]int{8}, nil, nil), of([]int{0}, nil, nil),
		of([]int{1}, []int{2, 1}, nil), of([]int{1}, []int{8}, nil), of([]int{1}, nil, []int{3, 2}), of([]int{1}, nil, []int{8}), of([]int{1}, nil, []int{1}), of([]int{1}, []int{2}, []int{2}),
	} {
		bad = append(bad, numbers(c))
	}
	for _, b := range bad {
		e := api.Entry{Term: 1, Kind: confKind, Data: b}
		finds(t, hard(4, base, e), base, 4)
		finds(t, hard(4, base, e, e, e), base, 4)
		finds(t, hard(4, base, tells(other), e), other, 5)
		finds(t, hard(4, base, e, tells(other)), other, 6)
		finds(t, hard(4, base, e, tells(other), e, e), other, 6)
	}
}

// P16.1: all valid members are found, by numbers written out and by image.PutConf; they are those of the entry alone.
func TestOfAllMembers(t *testing.T) {
	base := of([]int{1, 2, 3}, []int{4, 5}, []int{6, 7})
	for _, c := range sound(5) {
		finds(t, hard(4, base, tells(c)), c, 5)
		finds(t, hard(4, base, tells(base), api.Entry{Kind: api.EConf, Data: image.PutConf(c)}), c, 6)
		finds(t, hard(4, c), c, 4)
	}
}

// P16.1: the members at the base are told as they are, valid or not.
func TestOfTheBase(t *testing.T) {
	for _, c := range []api.Conf{{}, of([]int{2, 1}, []int{9, 9}, []int{1}), of(nil, []int{-1}, nil), of(nil, nil, []int{math.MinInt}), of(far, far, far)} {
		for _, base := range []int{0, 1, 7, 1 << 32, top - 1, top} {
			finds(t, hard(base, c), c, base)
			finds(t, hard(base, c, api.Entry{Kind: api.ENoop}, api.Entry{Kind: confKind}), c, base)
		}
	}
}

// P16.1: nothing else of the state counts.
func TestOfLooksAtNothingElse(t *testing.T) {
	base, other := of([]int{1}, nil, nil), of([]int{1, 2}, nil, nil)
	for _, v := range append([]int{1, 2, 3}, far...) {
		for _, e := range [][]api.Entry{nil, {tells(other)}} {
			h := hard(4, base, e...)
			want, at := newest(h)
			for i := range 5 {
				x := h
				x.Log.Entries = slices.Clone(e)
				switch i {
				case 0:
					x.Group = v
				case 1:
					x.Term = v
				case 2:
					x.Vote = v
				case 3:
					x.Log.BaseTerm = v
				case 4:
					x.Snap = numbers(of([]int{3}, nil, nil))
				}
				finds(t, x, want, at)
			}
		}
	}
}

// someEntry is an entry that tells members, or bytes that are none, or something else.
func someEntry(r *rand.Rand) api.Entry {
	e := api.Entry{Term: r.IntN(5), Kind: r.IntN(4)}
	switch r.IntN(4) {
	case 0, 1:
		e.Data = numbers(someSound(r))
	case 2:
		e.Data = numbers(anyConf(r))
	case 3:
		e.Data = numbers(someSound(r))
		e.Data = e.Data[:r.IntN(len(e.Data))]
	}
	return e
}

func randomHard(r *rand.Rand) api.Hard {
	var l []api.Entry
	for range r.IntN(12) {
		l = append(l, someEntry(r))
	}
	return hard(r.IntN(9), anyConf(r), l...)
}

// P16.1: logs of any sort.
func TestOfAnyLogs(t *testing.T) {
	r := rand.New(rand.NewPCG(16, 1))
	found := 0
	for range 50000 {
		h := randomHard(r)
		if r.IntN(3) == 0 {
			h.Log.Base = r.IntN(top + 1)
		}
		findsByTheWords(t, h)
		if _, at := newest(h); at > h.Log.Base {
			found++
		}
	}
	if found < 10000 {
		t.Errorf("only %d logs tell members", found)
	}
}

// P16.2, P16.3: all valid members and all nodes, and numbers that are none.
func TestAddAndDrop(t *testing.T) {
	for _, c := range sound(5) {
		for n := -2; n <= 10; n++ {
			addsByTheWords(t, c, n)
			dropsByTheWords(t, c, n)
		}
	}
	for m := range every {
		c := of(nodes(m), nil, nil)
		for n := -2; n <= 10; n++ {
			addsByTheWords(t, c, n)
			dropsByTheWords(t, c, n)
		}
	}
}

// P16.2: each error, and the one that goes ahead of the others.
func TestAddErrors(t *testing.T) {
	three, seven := of([]int{1, 2, 3}, nil, nil), of([]int{1, 2, 3, 4, 5, 6, 7}, nil, nil)
	adds(t, three, 1, api.Conf{}, twice)
	adds(t, three, 3, api.Conf{}, twice)
	adds(t, three, 7, of([]int{1, 2, 3}, nil, []int{7}), 0)
	adds(t, three, 0, api.Conf{}, node)
	adds(t, three, -1, api.Conf{}, node)
	adds(t, of([]int{2}, nil, nil), 1, of([]int{2}, nil, []int{1}), 0)
	for n := 1; n <= 7; n++ {
		adds(t, seven, n, api.Conf{}, twice)
	}
	learns, moves, both := of([]int{1}, nil, []int{2}), of([]int{1}, []int{1, 3}, nil), of([]int{1}, []int{3}, []int{2})
	for _, c := range []api.Conf{learns, moves, both} {
		for n := 1; n <= 7; n++ {
			adds(t, c, n, api.Conf{}, busy)
		}
	}
	for _, n := range far {
		for _, c := range []api.Conf{three, seven, learns, moves, both} {
			adds(t, c, n, api.Conf{}, node)
		}
	}
	for _, c := range []api.Conf{{}, of([]int{2, 1}, nil, nil), of([]int{1, 1}, nil, nil), of([]int{8}, nil, nil), of([]int{0, 1}, nil, nil), of(nil, []int{1}, nil), of(nil, nil, []int{1}), of([]int{1}, nil, []int{1}), of([]int{1}, []int{2}, []int{2}), of([]int{1}, []int{3, 2}, nil)} {
		for _, n := range append([]int{1, 2, 3, 7}, far...) {
			adds(t, c, n, api.Conf{}, wrong)
		}
	}
}

// P16.3: each error, and the one that goes ahead of the others.
func TestDropErrors(t *testing.T) {
	three := of([]int{1, 2, 3}, nil, nil)
	drops(t, three, 1, of([]int{1, 2, 3}, []int{2, 3}, nil), 0)
	drops(t, three, 2, of([]int{1, 2, 3}, []int{1, 3}, nil), 0)
	drops(t, three, 4, api.Conf{}, none)
	drops(t, three, 7, api.Conf{}, none)
	drops(t, of([]int{2, 7}, nil, nil), 2, of([]int{2, 7}, []int{7}, nil), 0)
	drops(t, of([]int{2, 7}, nil, nil), 7, of([]int{2, 7}, []int{2}, nil), 0)
	for n := 1; n <= 7; n++ {
		for m := 1; m <= 7; m++ {
			no := api.Errno(none)
			if m == n {
				no = wrong
			}
			drops(t, of([]int{n}, nil, nil), m, api.Conf{}, no)
		}
	}
	learns, moves, both := of([]int{1}, nil, []int{2}), of([]int{1, 2}, []int{1}, nil), of([]int{1}, []int{3}, []int{2})
	for _, c := range []api.Conf{learns, moves, both} {
		for n := 1; n <= 7; n++ {
			drops(t, c, n, api.Conf{}, busy)
		}
	}
	for _, n := range far {
		for _, c := range []api.Conf{three, of([]int{1}, nil, nil), learns, moves, both} {
			drops(t, c, n, api.Conf{}, node)
		}
	}
	for _, c := range []api.Conf{{}, of([]int{2, 1}, nil, nil), of([]int{1, 1}, nil, nil), of([]int{8}, nil, nil), of([]int{0, 1}, nil, nil), of(nil, []int{1}, nil), of(nil, nil, []int{1}), of([]int{1}, nil, []int{1}), of([]int{1}, []int{2}, []int{2}), of([]int{1, 2}, []int{3, 2}, nil)} {
		for _, n := range append([]int{1, 2, 3, 7}, far...) {
			drops(t, c, n, api.Conf{}, wrong)
		}
	}
}

// P16.4: all valid members, and all sets of nodes that are far.
func TestNext(t *testing.T) {
	for _, c := range sound(5) {
		for m := range 1 << 5 {
			goesOnByTheWords(t, c, nodes(m))
		}
	}
	r := rand.New(rand.NewPCG(16, 2))
	on, off := 0, 0
	for range 100000 {
		c := someSound(r)
		l := nodes(r.IntN(every) | mask(c.Learners)*r.IntN(2))
		goesOnByTheWords(t, c, l)
		if _, ok := next(c, l); ok {
			on++
		} else if changing(c) {
			off++
		}
	}
	if on < 10000 || off < 10000 {
		t.Errorf("%d of the members go on, and %d that are being changed do not", on, off)
	}
}

// P16.4: the list far may be in any order, have a node twice, and numbers that are no nodes.
func TestNextFar(t *testing.T) {
	learns := of([]int{2, 6}, nil, []int{1, 4, 7})
	goes := of([]int{2, 6}, []int{1, 2, 4, 6, 7}, nil)
	for _, l := range lists(4, 1, 4, 7, 2, -1) {
		goesOnByTheWords(t, learns, l)
	}
	goesOn(t, learns, []int{7, 1, 4}, goes, true)
	goesOn(t, learns, []int{7, 1, 4, 4, 1, 7}, goes, true)
	goesOn(t, learns, append([]int{1, 4, 7}, far...), goes, true)
	goesOn(t, learns, append(slices.Clone(far), 4, 7, 1), goes, true)
	goesOn(t, learns, far, learns, false)
	goesOn(t, learns, nil, learns, false)
	goesOn(t, learns, []int{2, 6}, learns, false)
	goesOn(t, learns, []int{1, 4}, learns, false)
	goesOn(t, learns, []int{4, 7}, learns, false)
	goesOn(t, learns, []int{1, 7, 7}, learns, false)
	goesOn(t, learns, append([]int{1, 7, 2, 3, 5, 6}, far...), learns, false)
	for n := 1; n <= 6; n++ {
		c := of([]int{7}, nil, []int{n})
		goesOn(t, c, []int{-n, n + 8, n + 64, n + 256, n + 1<<16, n + 1<<32, n - 1<<32, n + math.MinInt}, c, false)
		goesOn(t, c, []int{n}, of([]int{7}, []int{n, 7}, nil), true)
	}
}

// P16.4: members with New go on whatever far is, and their learners go.
func TestNextOfNew(t *testing.T) {
	for _, l := range [][]int{nil, {1}, {3}, {4}, {1, 2, 3, 4, 5, 6, 7}, far} {
		goesOn(t, of([]int{1, 2}, []int{3}, []int{4}), l, of([]int{3}, nil, nil), true)
		goesOn(t, of([]int{1, 2}, []int{3}, nil), l, of([]int{3}, nil, nil), true)
		goesOn(t, of([]int{1, 2}, []int{1, 2}, nil), l, of([]int{1, 2}, nil, nil), true)
		goesOn(t, of([]int{5}, []int{2, 4, 6}, nil), l, of([]int{2, 4, 6}, nil, nil), true)
	}
}

// P16.4: members that are not being changed, or are not valid, stay as they are.
func TestNextStays(t *testing.T) {
	for m := 1; m < every; m++ {
		c := of(nodes(m), nil, nil)
		for _, l := range [][]int{nil, nodes(m), nodes(whole), far} {
			goesOn(t, c, l, c, false)
		}
	}
	for _, c := range []api.Conf{
		{}, of(nil, []int{1}, nil), of(nil, nil, []int{1}), of(nil, []int{1}, []int{2}), of([]int{2, 1}, []int{1}, nil), of([]int{1}, []int{2, 1}, nil), of([]int{1}, []int{2, 2}, nil), of([]int{1}, nil, []int{3, 2}),
		of([]int{1}, nil, []int{1}), of([]int{1}, []int{2}, []int{2}), of([]int{8}, []int{1}, nil), of([]int{1}, []int{8}, nil), of([]int{1}, nil, []int{8}), of([]int{0}, []int{1}, nil), of(far, far, far),
	} {
		for _, l := range [][]int{nil, {1}, {1, 2, 3, 4, 5, 6, 7, 8}, far} {
			goesOn(t, c, l, c, false)
		}
	}
}

// P16.2 to P16.4: members of any sort, valid or not.
func TestAnyMembers(t *testing.T) {
	all := lists(2, 1, 2, 3, 8, 0)
	for _, old := range all {
		for _, new := range all {
			for _, learners := range all {
				c := of(old, new, learners)
				for _, n := range []int{-1, 0, 1, 2, 3, 7, 8} {
					addsByTheWords(t, c, n)
					dropsByTheWords(t, c, n)
				}
				goesOnByTheWords(t, c, nil)
				goesOnByTheWords(t, c, []int{2})
				goesOnByTheWords(t, c, []int{8, 3, 2, 1, 0})
			}
		}
	}
	r := rand.New(rand.NewPCG(16, 3))
	for range 100000 {
		c, n := anyConf(r), far[r.IntN(len(far))]
		addsByTheWords(t, c, n)
		addsByTheWords(t, c, r.IntN(9))
		dropsByTheWords(t, c, n)
		dropsByTheWords(t, c, r.IntN(9))
		goesOnByTheWords(t, c, some(r, 4, 3, 6, 7, 9, n))
	}
}

// steps is the members that one step of any kind leads to.
func steps(c api.Conf) []api.Conf {
	var all []api.Conf
	for n := 1; n <= most; n++ {
		if to, e := conf.Add(c, n); e == 0 {
			all = append(all, to)
		}
		if to, e := conf.Drop(c, n); e == 0 {
			all = append(all, to)
		}
	}
	if to, ok := conf.Next(c, nodes(whole)); ok {
		all = append(all, to)
	}
	return all
}

// P16.5: what a step leads to is valid, by chapter 10 and by its words, and it is something else.
func TestValid(t *testing.T) {
	seen := 0
	for _, c := range sound(most) {
		for _, to := range steps(c) {
			seen++
			if !valid(to) || quorum.Check(to) != 0 || same(to, c) {
				t.Errorf("from %v to %v", c, to)
			}
		}
	}
	if seen != 76693 {
		t.Errorf("%d steps", seen)
	}
}

// wins reports whether the nodes of a mask are a quorum, by the words of chapter 10.
func wins(c api.Conf, set int) bool {
	for _, l := range [][]int{c.Old, c.New} {
		if len(l) > 0 && 2*bits.OnesCount(uint(mask(l)&set)) <= len(l) {
			return false
		}
	}
	return true
}

// meet reports whether every quorum of a and every quorum of b have a voter of both in common: if two had none, all the nodes that the one lacks would be a quorum, too.
func meet(a, b api.Conf, won func(api.Conf, int) bool) bool {
	common := mask(quorum.Voters(a)) & mask(quorum.Voters(b))
	for set := range every {
		if won(a, set) && won(b, whole&^(set&common)) {
			return false
		}
	}
	return true
}

// P16.6: for all valid members, and every step that leads on from them.
func TestSafe(t *testing.T) {
	for _, c := range sound(most) {
		for _, to := range steps(c) {
			if !meet(c, to, wins) {
				t.Errorf("a quorum of %v and one of %v have no voter in common", c, to)
			}
		}
	}
	won := func(c api.Conf, set int) bool { return quorum.Won(c, nodes(set)) }
	for _, c := range sound(3) {
		for _, to := range steps(c) {
			if !meet(c, to, won) {
				t.Errorf("a quorum of %v and one of %v have no voter in common", c, to)
			}
		}
	}
	// That this test can fail is seen by a step that no call takes.
	if meet(of([]int{1, 2, 3}, nil, nil), of([]int{3, 4, 5}, nil, nil), wins) || meet(of([]int{1, 2}, nil, nil), of([]int{3}, nil, nil), won) {
		t.Error("members that have not a voter in common pass")
	}
}

// P16.7: a node comes in two steps behind Add, and goes in one behind Drop.
func TestAChangeEnds(t *testing.T) {
	all := nodes(whole)
	for m := 1; m < every; m++ {
		for n := 1; n <= most; n++ {
			c := of(nodes(m), nil, nil)
			with, without := of(nodes(m|1<<(n-1)), nil, nil), of(nodes(m&^(1<<(n-1))), nil, nil)
			if first, e := conf.Add(c, n); e == 0 {
				second, ok := conf.Next(first, all)
				third, also := conf.Next(second, all)
				if !ok || !also || !changing(second) || !same(third, with) {
					t.Errorf("Add(%v, %d): %v, %v, %v", c, n, first, second, third)
				}
				goesOn(t, third, all, with, false)
				goesOn(t, second, nil, with, true)
				goesOn(t, first, []int{n}, second, true)
				goesOn(t, first, nodes(whole&^(1<<(n-1))), first, false)
			} else if m&(1<<(n-1)) == 0 {
				t.Errorf("Add(%v, %d): %d", c, n, e)
			}
			if first, e := conf.Drop(c, n); e == 0 {
				goesOn(t, first, all, without, true)
				goesOn(t, first, nil, without, true)
			} else if m&(1<<(n-1)) != 0 && m != 1<<(n-1) {
				t.Errorf("Drop(%v, %d): %d", c, n, e)
			}
		}
	}
}

// P16.1 to P16.7: groups that change again and again, by entries of one log.
func TestManyChanges(t *testing.T) {
	r := rand.New(rand.NewPCG(16, 4))
	for range 300 {
		h := hard(r.IntN(top), of(nodes(1+r.IntN(every-1)), nil, nil))
		for range 100 {
			c, at := conf.Of(h)
			if !valid(c) || at > h.Log.Base+len(h.Log.Entries) {
				t.Fatalf("%v at %d", c, at)
			}
			to, ok := conf.Next(c, nodes(r.IntN(every)))
			if !ok {
				n := r.IntN(9)
				no := api.Errno(0)
				if to, no = conf.Add(c, n); no != 0 {
					to, no = conf.Drop(c, n)
				}
				ok = no == 0
			}
			h.Log.Entries = append(h.Log.Entries, api.Entry{Term: 1, Kind: api.EOp, Data: numbers(of([]int{r.IntN(9)}, nil, nil))})
			finds(t, h, c, at)
			if ok {
				if !meet(c, to, wins) || same(c, to) {
					t.Fatalf("from %v to %v", c, to)
				}
				h.Log.Entries = append(h.Log.Entries, api.Entry{Term: 1, Kind: api.EConf, Data: image.PutConf(to)})
				finds(t, h, to, h.Log.Base+len(h.Log.Entries))
			}
		}
	}
}

// R1: no call panics, whatever it is given; nothing is promised of Of for logs that are not valid.
func TestNothingPanics(t *testing.T) {
	conf.Of(api.Hard{})
	conf.Next(api.Conf{}, nil)
	for _, a := range far {
		conf.Of(hard(a, api.Conf{}))
		conf.Of(hard(a, of([]int{a}, nil, []int{a}), tells(of([]int{1}, nil, nil)), api.Entry{Kind: a}))
		for _, n := range []int{-1, 0, 1, 9} {
			b := binary.BigEndian.AppendUint64(nil, uint64(a))
			conf.Of(hard(n, api.Conf{}, api.Entry{Kind: confKind, Data: b}, api.Entry{Kind: confKind, Data: append(make([]byte, 8), b...)}))
		}
		for _, b := range far {
			for _, c := range far {
				x := of([]int{a}, []int{b}, []int{c, a})
				addsByTheWords(t, x, b)
				dropsByTheWords(t, x, b)
				goesOnByTheWords(t, x, []int{a, b, c})
				goesOnByTheWords(t, of([]int{1}, nil, []int{a}), []int{a, b, c})
				goesOnByTheWords(t, of([]int{1}, nil, []int{3}), []int{a, b, c})
			}
		}
	}
}

// R1: the longest logs, and very long lists.
func TestVeryLongLists(t *testing.T) {
	l := make([]api.Entry, longest)
	for i := range l {
		l[i] = api.Entry{Term: 1, Kind: api.EOp}
	}
	base, a, b := of([]int{1}, nil, nil), of([]int{1}, nil, []int{2}), of([]int{1}, []int{1, 2}, nil)
	finds(t, hard(top, base, l...), base, top)
	l[0] = tells(a)
	finds(t, hard(top, base, l...), a, top+1)
	l[longest/2] = tells(b)
	finds(t, hard(top, base, l...), b, top+1+longest/2)
	l[longest-1] = tells(a)
	finds(t, hard(top, base, l...), a, top+longest)
	for i := range l {
		l[i].Kind = confKind
		l[i].Data = []byte{1}
	}
	finds(t, hard(0, base, l...), base, 0)
	many := make([]int, 1<<21)
	for i := range many {
		many[i] = 1 + i%9
	}
	goesOn(t, of([]int{1, 5}, nil, []int{2, 6}), many, of([]int{1, 5}, []int{1, 2, 5, 6}, nil), true)
	slices.Sort(many)
	goesOn(t, of([]int{1, 5}, nil, []int{2, 7}), many, of([]int{1, 5}, []int{1, 2, 5, 7}, nil), true)
	goesOn(t, of([]int{1, 5}, nil, []int{2, 7}), many[:1<<20], of([]int{1, 5}, nil, []int{2, 7}), false)
	for _, c := range []api.Conf{of(many, many[1:], many[2:]), of([]int{1}, many, nil), of([]int{1}, nil, many), of([]int{1}, []int{2}, many)} {
		goesOn(t, c, many, c, false)
		adds(t, c, 2, api.Conf{}, wrong)
		drops(t, c, 2, api.Conf{}, wrong)
		finds(t, hard(3, c), c, 3)
		findsByTheWords(t, hard(3, base, tells(c)))
	}
}

// Nil and empty lists are the same.
func TestEmptyLists(t *testing.T) {
	l := []int{1, 2, 3}
	for _, no := range [][]int{nil, {}, l[:0], l[3:]} {
		adds(t, of(l, no, no), 4, of(l, nil, []int{4}), 0)
		drops(t, of(l, no, no), 2, of(l, []int{1, 3}, nil), 0)
		goesOn(t, of(l, no, no), no, of(l, nil, nil), false)
		goesOn(t, of(l, no, []int{4}), no, of(l, nil, []int{4}), false)
		goesOn(t, of(l, no, []int{4}), []int{4}, of(l, []int{1, 2, 3, 4}, nil), true)
		goesOn(t, of(l, []int{2}, no), no, of([]int{2}, nil, nil), true)
		goesOn(t, of(no, no, no), no, api.Conf{}, false)
		goesOn(t, of(no, []int{2}, no), no, of(nil, []int{2}, nil), false)
		adds(t, of(no, no, no), 4, api.Conf{}, wrong)
		drops(t, of(no, no, no), 4, api.Conf{}, wrong)
		for _, e := range [][]api.Entry{nil, {}, make([]api.Entry, 0, 5), []api.Entry{tells(of(l, nil, nil))}[:0]} {
			finds(t, hard(4, of(no, no, no), e...), api.Conf{}, 4)
			finds(t, hard(4, of(l, no, no), e...), of(l, nil, nil), 4)
		}
		finds(t, hard(4, of(no, no, no), api.Entry{Kind: confKind, Data: numbers(of(l, no, no))}), of(l, nil, nil), 5)
	}
	for _, no := range [][]byte{nil, {}, make([]byte, 0, 40)} {
		finds(t, hard(4, of(l, nil, nil), api.Entry{Kind: confKind, Data: no}), of(l, nil, nil), 4)
	}
}

// fill makes a value say what no test says.
func fill(v reflect.Value) {
	switch v.Kind() {
	case reflect.Int:
		v.SetInt(7777)
	case reflect.Uint8:
		v.SetUint(0xA5)
	case reflect.Slice:
		v.Set(reflect.MakeSlice(v.Type(), 1, 1))
		fill(v.Index(0))
	case reflect.Struct:
		for i := range v.NumField() {
			fill(v.Field(i))
		}
	}
}

// roomy is a copy of a value, all lists of which have filled memory behind their ends.
func roomy[T any](x T) T {
	var copied func(v reflect.Value)
	copied = func(v reflect.Value) {
		switch v.Kind() {
		case reflect.Slice:
			n := v.Len()
			l := reflect.MakeSlice(v.Type(), n+3, n+3)
			for i := range n + 3 {
				if i < n {
					l.Index(i).Set(v.Index(i))
					copied(l.Index(i))
				} else {
					fill(l.Index(i))
				}
			}
			v.Set(l.Slice(0, n))
		case reflect.Struct:
			for i := range v.NumField() {
				copied(v.Field(i))
			}
		}
	}
	copied(reflect.ValueOf(&x).Elem())
	return x
}

// intact reports whether a value that roomy has made is as roomy makes it, with what is behind the ends of its lists.
func intact(got, fresh reflect.Value) bool {
	switch got.Kind() {
	case reflect.Slice:
		if got.Len() != fresh.Len() || got.Cap() != fresh.Cap() {
			return false
		}
		a, b := got.Slice(0, got.Cap()), fresh.Slice(0, fresh.Cap())
		for i := range a.Len() {
			if !intact(a.Index(i), b.Index(i)) {
				return false
			}
		}
	case reflect.Struct:
		for i := range got.NumField() {
			if !intact(got.Field(i), fresh.Field(i)) {
				return false
			}
		}
	default:
		return got.Equal(fresh)
	}
	return true
}

// stays holds that an argument is as it was, by a copy of it that is made anew.
func stays[T any](t *testing.T, what string, got, was T) {
	t.Helper()
	if !intact(reflect.ValueOf(got), reflect.ValueOf(roomy(was))) {
		t.Fatalf("%s: %+v, it was %+v", what, got, was)
	}
}

// span is memory from an address on, ahead of another.
type span struct{ from, to uintptr }

// memory is where the lists of a value lie, with the room behind their ends.
func memory(v reflect.Value) []span {
	var l []span
	switch v.Kind() {
	case reflect.Slice:
		if n := uintptr(v.Cap()) * v.Type().Elem().Size(); n > 0 {
			l = append(l, span{v.Pointer(), v.Pointer() + n})
		}
		for i := range v.Len() {
			l = append(l, memory(v.Index(i))...)
		}
	case reflect.Struct:
		for i := range v.NumField() {
			l = append(l, memory(v.Field(i))...)
		}
	}
	return l
}

// apart reports whether no two of some values, and no two lists of one of them, share memory.
func apart(l ...any) bool {
	var all []span
	for _, x := range l {
		all = append(all, memory(reflect.ValueOf(x))...)
	}
	slices.SortFunc(all, func(a, b span) int {
		if a.from < b.from {
			return -1
		}
		return 1
	})
	for i := 1; i < len(all); i++ {
		if all[i].from < all[i-1].to {
			return false
		}
	}
	return true
}

// answers is what the four calls answer.
type answers struct {
	of, added, dropped, next api.Conf
	at                       int
	add, drop                api.Errno
	ok                       bool
}

func answer(h api.Hard, c api.Conf, n int, far []int) answers {
	var a answers
	a.of, a.at = conf.Of(h)
	a.added, a.add = conf.Add(c, n)
	a.dropped, a.drop = conf.Drop(c, n)
	a.next, a.ok = conf.Next(c, far)
	return a
}

// expected is what the four calls answer by the words.
func expected(h api.Hard, c api.Conf, n int, far []int) answers {
	var a answers
	a.of, a.at = newest(h)
	a.added, a.add = add(c, n)
	a.dropped, a.drop = drop(c, n)
	a.next, a.ok = next(c, far)
	return a
}

func agree(a, b answers) bool {
	return same(a.of, b.of) && same(a.added, b.added) && same(a.dropped, b.dropped) && same(a.next, b.next) && a.at == b.at && a.add == b.add && a.drop == b.drop && a.ok == b.ok
}

// questions is arguments of all sorts.
func questions(r *rand.Rand) (api.Hard, api.Conf, int, []int) {
	h, c := randomHard(r), someSound(r)
	if r.IntN(4) == 0 {
		h.Log.Entries = nil
	}
	switch r.IntN(4) {
	case 0:
		c = anyConf(r)
	case 1:
		c.New, c.Learners = nil, nil
	}
	l := some(r, 9, 1, 2, 3, 4, 5, 6, 7)
	if r.IntN(2) == 0 {
		l = append(l, c.Learners...)
	}
	return h, c, r.IntN(9), l
}

// scribble writes over members, with the room behind their ends.
func scribble(c api.Conf) {
	for _, l := range [][]int{c.Old, c.New, c.Learners} {
		l = l[:cap(l)]
		for i := range l {
			l[i] = 66
		}
	}
}

// R3: no call changes its arguments or the memory behind them, what lies there does not count, and the results are new memory.
func TestMemory(t *testing.T) {
	r := rand.New(rand.NewPCG(16, 5))
	for range 10000 {
		h0, c0, n, l0 := questions(r)
		h, c, l := roomy(h0), roomy(c0), roomy(l0)
		a, b := answer(h, c, n, l), answer(h, c, n, l)
		if want := expected(h0, c0, n, l0); !agree(a, want) || !agree(b, want) {
			t.Fatalf("%+v, %v, %d, %v: %+v, %+v, want %+v", h0, c0, n, l0, a, b, want)
		}
		if !apart(h, c, l, a.of, a.added, a.dropped, a.next, b.of, b.added, b.dropped, b.next) {
			t.Fatalf("%+v, %v, %d, %v: a result shares memory", h0, c0, n, l0)
		}
		stays(t, "the state", h, h0)
		stays(t, "the members", c, c0)
		stays(t, "far", l, l0)
	}
}

// R3: what was answered says the same after the arguments are changed, and the arguments do after it is changed.
func TestAnswersAreNewMemory(t *testing.T) {
	r := rand.New(rand.NewPCG(16, 6))
	for range 5000 {
		h0, c0, n, l0 := questions(r)
		h, c, l := roomy(h0), roomy(c0), roomy(l0)
		want := expected(h0, c0, n, l0)
		first, second := answer(h, c, n, l), answer(h, c, n, l)
		for _, x := range []api.Conf{first.of, first.added, first.dropped, first.next} {
			scribble(x)
		}
		stays(t, "the state", h, h0)
		stays(t, "the members", c, c0)
		scribble(h.Conf)
		for _, e := range h.Log.Entries {
			clear(e.Data[:cap(e.Data)])
		}
		clear(h.Log.Entries[:cap(h.Log.Entries)])
		scribble(c)
		clear(l[:cap(l)])
		if got := second; !same(got.of, want.of) || !agree(got, expected(h0, c0, n, l0)) {
			t.Fatalf("%+v, want %+v", got, want)
		}
	}
}

// R3: no two lists of an answer share memory, even if those handed in do.
func TestSharedArguments(t *testing.T) {
	all := []int{1, 2, 3, 4, 5, 6, 7}
	for i := range 8 {
		for j := range 8 {
			for k := range 8 {
				c := of(all[:i], all[j:], all[k:min(k+2, 7)])
				want, ok := next(c, all)
				goesOn(t, c, all, want, ok)
				goesOn(t, c, c.Learners, want, ok)
				got, _ := conf.Next(c, all)
				found, _ := conf.Of(hard(4, c))
				added, _ := conf.Add(c, k)
				dropped, _ := conf.Drop(c, k)
				finds(t, hard(4, c), c, 4)
				addsByTheWords(t, c, k)
				dropsByTheWords(t, c, k)
				if !apart(all, got, found, added, dropped) {
					t.Errorf("%v: a result shares memory", c)
				}
			}
		}
	}
	data := numbers(of(all, nil, nil))
	e := api.Entry{Kind: confKind, Data: data}
	a, _ := conf.Of(hard(4, of(all, all, all), e, e))
	b, _ := conf.Of(hard(4, of(all, all, all), e, e))
	if !apart(all, data, a, b) || !same(a, of(all, nil, nil)) || !slices.Equal(all, []int{1, 2, 3, 4, 5, 6, 7}) {
		t.Error("what was handed in is another one, or a result shares it")
	}
}

// R4: the same calls have the same results, whatever came between.
func TestAnswersRecur(t *testing.T) {
	r := rand.New(rand.NewPCG(16, 7))
	for range 2000 {
		h, c, n, l := questions(r)
		first := answer(h, c, n, l)
		for range 5 {
			answer(questions(r))
			if got := answer(h, c, n, l); !agree(got, first) {
				t.Fatalf("%+v, %v, %d, %v: another answer the second time", h, c, n, l)
			}
		}
	}
}
