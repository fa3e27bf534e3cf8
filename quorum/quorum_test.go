package quorum_test

import (
	"math"
	"math/bits"
	"math/rand/v2"
	"slices"
	"testing"

	"glebe/api"
	"glebe/quorum"
)

// The document's numbers, held against api's by TestLimits.
const (
	most = 7
	top  = 1 << 40
)

// every is the masks of all sets of nodes: the bit k stands for the node k+1.
const every = 1 << most

// The chapter's functions, with these very signatures.
var (
	_ func(api.Conf) api.Errno         = quorum.Check
	_ func(api.Conf) []int             = quorum.Voters
	_ func(api.Conf) []int             = quorum.Members
	_ func(api.Conf, []int) bool       = quorum.Won
	_ func(api.Conf, []int, []int) int = quorum.Agreed
)

// far are numbers that are no nodes.
var far = []int{math.MinInt, math.MinInt + 1, -top, -1 << 32, -7, -1, 0, 8, 9, 63, 64, 65, 100, 1<<32 + 1, top, math.MaxInt - 1, math.MaxInt}

// nodes is the nodes of a mask, ascending.
func nodes(mask int) []int {
	var l []int
	for ; mask > 0; mask &= mask - 1 {
		l = append(l, bits.TrailingZeros(uint(mask))+1)
	}
	return l
}

// lists is all lists of up to k numbers out of some.
func lists(k int, out ...int) [][]int {
	all := [][]int{nil}
	for from := 0; k > 0; k-- {
		to := len(all)
		for _, l := range all[from:to] {
			for _, v := range out {
				all = append(all, append(slices.Clone(l), v))
			}
		}
		from = to
	}
	return all
}

// some is a list of up to k numbers out of some.
func some(r *rand.Rand, k int, out ...int) []int {
	var l []int
	for range r.IntN(k + 1) {
		l = append(l, out[r.IntN(len(out))])
	}
	return l
}

// valid follows the words of the section 'Definitions'.
func valid(c api.Conf) bool {
	if len(c.Old) == 0 {
		return false
	}
	for _, l := range [][]int{c.Old, c.New, c.Learners} {
		for i, n := range l {
			if n < 1 || n > most || i > 0 && l[i-1] >= n {
				return false
			}
		}
	}
	for _, n := range c.Learners {
		if has(c.Old, n) || has(c.New, n) {
			return false
		}
	}
	return true
}

func has(l []int, n int) bool {
	for _, v := range l {
		if v == n {
			return true
		}
	}
	return false
}

// union follows the words of P10.1: the least number above the last one, again and again.
func union(lists ...[]int) []int {
	var all []int
	for {
		least, found := 0, false
		for _, l := range lists {
			for _, n := range l {
				if (len(all) == 0 || n > all[len(all)-1]) && (!found || n < least) {
					least, found = n, true
				}
			}
		}
		if !found {
			return all
		}
		all = append(all, least)
	}
}

// majority follows the words: more than half of the elements of the list are among the nodes that agree.
func majority(l, agree []int) bool {
	n := 0
	for _, v := range l {
		if has(agree, v) {
			n++
		}
	}
	return 2*n > len(l)
}

// enough follows the words: a majority of Old and, if New is not empty, a majority of New.
func enough(c api.Conf, set []int) bool {
	if len(c.New) == 0 {
		return majority(c.Old, set)
	}
	return majority(c.Old, set) && majority(c.New, set)
}

// agreed follows the words of P10.3, number by number.
func agreed(c api.Conf, nodes, reached []int) int {
	greatest, k := 0, min(len(nodes), len(reached))
	for _, v := range reached[:k] {
		var set []int
		for i := range k {
			if reached[i] >= v {
				set = append(set, nodes[i])
			}
		}
		if v > 0 && enough(c, set) && v > greatest {
			greatest = v
		}
	}
	return greatest
}

// checks holds Check against the words, and Voters and Members too.
func checks(t *testing.T, c api.Conf) {
	t.Helper()
	want := api.ErrConf
	if valid(c) {
		want = api.OK
	}
	if got := quorum.Check(c); got != want {
		t.Errorf("Check(%v) = %d, want %d", c, got, want)
	}
	names(t, c, union(c.Old, c.New), union(c.Old, c.New, c.Learners))
}

// names holds Voters and Members against what is asked for.
func names(t *testing.T, c api.Conf, voters, members []int) {
	t.Helper()
	if got := quorum.Voters(c); !slices.Equal(got, voters) {
		t.Errorf("Voters(%v) = %v, want %v", c, got, voters)
	}
	if got := quorum.Members(c); !slices.Equal(got, members) {
		t.Errorf("Members(%v) = %v, want %v", c, got, members)
	}
}

func won(t *testing.T, c api.Conf, yes []int, want bool) {
	t.Helper()
	if got := quorum.Won(c, yes); got != want {
		t.Errorf("Won(%v, %v) = %v", c, yes, got)
	}
}

func agrees(t *testing.T, c api.Conf, nodes, reached []int, want int) {
	t.Helper()
	if got := quorum.Agreed(c, nodes, reached); got != want {
		t.Errorf("Agreed(%v, %v, %v) = %d, want %d", c, nodes, reached, got, want)
	}
}

func TestLimits(t *testing.T) {
	if api.MaxNodes != most || api.MaxNumber != top || api.ErrConf != 29 || api.OK != 0 {
		t.Error("the limits or the errors are other ones")
	}
}

// The chapter's examples.
func TestExamples(t *testing.T) {
	three, joint, four := api.Conf{Old: []int{1, 2, 3}}, api.Conf{Old: []int{1, 2, 3}, New: []int{3, 4}}, api.Conf{Old: []int{1, 2, 3, 4}}
	for _, x := range []struct {
		c    api.Conf
		yes  []int
		want bool
	}{
		{three, []int{1, 3}, true},
		{three, []int{3}, false},
		{three, []int{1, 4, 5}, false},
		{three, []int{2, 2}, false},
		{joint, []int{1, 3, 4}, true},
		{joint, []int{3, 4}, false},
		{joint, []int{1, 2, 3}, false},
		{four, []int{1, 2}, false},
		{four, []int{1, 2, 3}, true},
		{api.Conf{}, []int{1}, false},
	} {
		won(t, x.c, x.yes, x.want)
	}
	agrees(t, three, []int{1, 2, 3}, []int{7, 5, 9}, 7)
	agrees(t, three, []int{1, 2, 3}, []int{0, 0, 9}, 0)
	for _, c := range []api.Conf{{Old: []int{2, 1}}, {Old: []int{8}}, {Old: []int{1}, Learners: []int{1}}} {
		if got := quorum.Check(c); got != api.ErrConf {
			t.Errorf("Check(%v) = %d", c, got)
		}
	}
}

// P10.1: all sets of nodes from 1 to 7 at all three places.
func TestCheckOfAllSets(t *testing.T) {
	l := make([][]int, every)
	for mask := range l {
		l[mask] = nodes(mask)
	}
	for old := range l {
		for new := range l {
			for learners := range l {
				want := api.OK
				if old == 0 || learners&(old|new) != 0 {
					want = api.ErrConf
				}
				if got := quorum.Check(api.Conf{Old: l[old], New: l[new], Learners: l[learners]}); got != want {
					t.Fatalf("Check of %v, %v, %v: %d, want %d", l[old], l[new], l[learners], got, want)
				}
			}
		}
	}
}

// P10.1: all rows of three short lists, in order or not, of nodes or not.
func TestShortLists(t *testing.T) {
	l := lists(2, -1, 0, 1, 2, 7, 8)
	for _, a := range l {
		for _, b := range l {
			for _, c := range l {
				checks(t, api.Conf{Old: a, New: b, Learners: c})
			}
		}
	}
}

// placed is a list at each of the three places, the other two being such that they are no reason for an error.
func placed(l []int) []api.Conf {
	all := []api.Conf{{Old: l}, {Old: []int{1}, New: l}, {Old: []int{3}, New: l}, {Old: []int{7}, New: l}}
	for n := 1; n <= most; n++ {
		if !has(l, n) { // a learner that is a voter is an error by itself
			all = append(all, api.Conf{Old: []int{n}, Learners: l}, api.Conf{Old: []int{n}, New: []int{n}, Learners: l}, api.Conf{Old: l, Learners: []int{n}}, api.Conf{Old: l, New: l, Learners: []int{n}})
		}
	}
	return all
}

// P10.1: all lists of up to four numbers at each place.
func TestListsAtEachPlace(t *testing.T) {
	for _, l := range lists(4, 0, 1, 3, 4, 7, 8) {
		for _, c := range placed(l) {
			checks(t, c)
		}
	}
}

// P10.1: one fault at each index of a list that has none else.
func TestOneFaultAtEachIndex(t *testing.T) {
	for mask := range every {
		l := nodes(mask)
		for i := range l {
			for _, v := range append(l, far...) {
				other := slices.Clone(l)
				other[i] = v
				for _, c := range placed(other) {
					checks(t, c)
				}
			}
			for j := range i {
				other := slices.Clone(l)
				other[i], other[j] = other[j], other[i]
				for _, c := range placed(other) {
					checks(t, c)
				}
			}
		}
	}
}

// P10.1: a number too many at each index of all nodes; and each node may be there.
func TestAllNodesAndOneMore(t *testing.T) {
	whole := nodes(every - 1)
	if !slices.Equal(whole, []int{1, 2, 3, 4, 5, 6, 7}) {
		t.Fatalf("all nodes: %v", whole)
	}
	for i := range len(whole) + 1 {
		for _, v := range append(slices.Clone(whole), far...) {
			for _, c := range placed(slices.Insert(slices.Clone(whole), i, v)) {
				checks(t, c)
			}
		}
	}
	for _, c := range placed(whole) {
		checks(t, c)
	}
	for n := 1; n <= most; n++ {
		for _, c := range placed([]int{n}) {
			checks(t, c)
		}
	}
}

// P10.1: each node as a learner beside each voter, in Old, in New or in both.
func TestLearnersAreNoVoters(t *testing.T) {
	for a := 1; a <= most; a++ {
		for b := 1; b <= most; b++ {
			for learner := 1; learner <= most; learner++ {
				want := api.OK
				if learner == a || learner == b {
					want = api.ErrConf
				}
				c := api.Conf{Old: []int{a}, New: []int{b}, Learners: []int{learner}}
				if got := quorum.Check(c); got != want {
					t.Errorf("Check(%v) = %d, want %d", c, got, want)
				}
			}
		}
	}
}

// P10.1: nil and empty lists are the same, and New and Learners without Old are not valid.
func TestEmptyLists(t *testing.T) {
	for _, none := range [][]int{nil, {}, make([]int, 0, 9), nodes(every - 1)[:0]} {
		for _, c := range []api.Conf{{Old: none, New: none, Learners: none}, {Old: none, New: []int{1}, Learners: none}, {Old: none, New: none, Learners: []int{2}}, {Old: none, New: []int{1}, Learners: []int{2}}} {
			if got := quorum.Check(c); got != api.ErrConf {
				t.Errorf("Check(%v) = %d", c, got)
			}
			checks(t, c)
			won(t, c, []int{1, 2, 3}, false)
			won(t, c, none, false)
			agrees(t, c, []int{1, 2, 3}, []int{4, 4, 4}, 0)
		}
		c := api.Conf{Old: []int{1, 4}, New: none, Learners: none}
		if got := quorum.Check(c); got != api.OK {
			t.Errorf("Check(%v) = %d", c, got)
		}
		checks(t, c)
		won(t, c, none, false)
		won(t, c, []int{1, 4}, true)
		agrees(t, c, none, none, 0)
		agrees(t, c, []int{1, 4}, none, 0)
		agrees(t, c, none, []int{3, 3}, 0)
		agrees(t, c, []int{1, 4}, []int{3, 2}, 2)
	}
}

// P10.1: Voters and Members of members of any sort, valid or not.
func TestWhoBelongs(t *testing.T) {
	names(t, api.Conf{}, nil, nil)
	names(t, api.Conf{Old: []int{5, 1}, New: []int{3, 5}, Learners: []int{2, 9}}, []int{1, 3, 5}, []int{1, 2, 3, 5, 9})
	names(t, api.Conf{Learners: []int{4, 4, 2}}, nil, []int{2, 4})
	names(t, api.Conf{New: []int{4, 4, 2}, Learners: []int{4}}, []int{2, 4}, []int{2, 4})
	names(t, api.Conf{Old: []int{math.MaxInt}, New: []int{math.MinInt}, Learners: []int{0}}, []int{math.MinInt, math.MaxInt}, []int{math.MinInt, 0, math.MaxInt})
	r := rand.New(rand.NewPCG(1, 1))
	out := append(nodes(every-1), far...)
	for range 3000 {
		c := api.Conf{Old: some(r, 9, out...), New: some(r, 9, out...), Learners: some(r, 9, out...)}
		checks(t, c)
	}
	for mask := range every * every {
		old, new := mask%every, mask/every
		names(t, api.Conf{Old: nodes(old), New: nodes(new), Learners: []int{7}}, nodes(old|new), nodes(old|new|1<<6))
	}
}

// P10.2: all sets of nodes as Old, by the number of those that agree.
func TestWonOfOld(t *testing.T) {
	for old := range every {
		c := api.Conf{Old: nodes(old)}
		for yes := range every {
			n, of := bits.OnesCount(uint(old&yes)), bits.OnesCount(uint(old))
			won(t, c, nodes(yes), n >= of/2+1)
		}
	}
}

// P10.2: amid a change, all sets of five nodes as Old and as New, by their numbers.
func TestWonAmidAChange(t *testing.T) {
	for old := range 32 {
		for new := 1; new < 32; new++ {
			c := api.Conf{Old: nodes(old), New: nodes(new)}
			for yes := range 64 {
				first := bits.OnesCount(uint(old&yes)) >= bits.OnesCount(uint(old))/2+1
				second := bits.OnesCount(uint(new&yes)) >= bits.OnesCount(uint(new))/2+1
				won(t, c, nodes(yes), first && second)
			}
		}
	}
}

// P10.2: for any members: a list's elements count one by one, whatever they are and however often they are there.
func TestWonOfAnyMembers(t *testing.T) {
	yes := lists(3, -1, 1, 2, 9)
	for _, old := range lists(4, -1, 1, 9) {
		for _, new := range lists(3, 1, 9) {
			c := api.Conf{Old: old, New: new}
			for _, y := range yes {
				won(t, c, y, enough(c, y))
			}
		}
	}
	for _, n := range append(nodes(every-1), far...) {
		for _, m := range append(nodes(every-1), far...) {
			won(t, api.Conf{Old: []int{n}}, []int{m}, n == m)
			won(t, api.Conf{Old: []int{n}, New: []int{m}}, []int{m}, n == m)
			won(t, api.Conf{Old: []int{n}, New: []int{m}}, []int{n}, n == m)
			won(t, api.Conf{Old: []int{n}, New: []int{m}}, []int{m, n}, true)
			won(t, api.Conf{Old: []int{n, n, m}}, []int{n}, true)
			won(t, api.Conf{Old: []int{n, m, m, n}}, []int{m}, n == m)
		}
	}
}

// P10.2: those that agree are a set: neither their order nor a repetition counts.
func TestWonOfASet(t *testing.T) {
	r := rand.New(rand.NewPCG(2, 2))
	for range 20000 {
		c := api.Conf{Old: nodes(r.IntN(every)), New: nodes(r.IntN(every) * r.IntN(2))}
		yes := nodes(r.IntN(every))
		want := enough(c, yes)
		for _, n := range slices.Clone(yes) {
			for range r.IntN(4) {
				yes = append(yes, n)
			}
		}
		r.Shuffle(len(yes), func(i, j int) { yes[i], yes[j] = yes[j], yes[i] })
		won(t, c, yes, want)
		won(t, c, append(yes, 0, 8, -1, math.MinInt, math.MaxInt), want)
	}
}

// P10.2 and P10.3: learners make no quorum and are not needed for one.
func TestLearnersDoNotCount(t *testing.T) {
	for old := range 16 {
		for new := range 16 {
			bare := api.Conf{Old: nodes(old), New: nodes(new)}
			for learners := range every {
				c := api.Conf{Old: nodes(old), New: nodes(new), Learners: nodes(learners)}
				for _, yes := range []int{learners, old | learners, new | learners, old | new, old, every - 1 - learners} {
					won(t, c, nodes(yes), enough(bare, nodes(yes)))
				}
				reached := []int{3, 1, 4, 1, 5, 9, 2}
				agrees(t, c, nodes(every-1), reached, agreed(bare, nodes(every-1), reached))
			}
		}
	}
}

// P10.3: all numbers up to 3 that four nodes reached, for all sets of four nodes as Old and as New.
func TestAgreedOfAllMembers(t *testing.T) {
	for mask := range 16 * 16 {
		c := api.Conf{Old: nodes(mask % 16), New: nodes(mask / 16)}
		for v := range 4 * 4 * 4 * 4 {
			reached := []int{v % 4, v / 4 % 4, v / 16 % 4, v / 64}
			agrees(t, c, []int{1, 2, 3, 4}, reached, agreed(c, []int{1, 2, 3, 4}, reached))
		}
	}
}

// P10.3: by the place among the numbers in order: of n nodes of Old, the number that n/2+1 of them have reached.
func TestAgreedByPlace(t *testing.T) {
	r := rand.New(rand.NewPCG(3, 3))
	for mask := 1; mask < every; mask++ {
		l := nodes(mask)
		for range 40 {
			reached := make([]int, len(l))
			for i := range reached {
				reached[i] = r.IntN(6) - 1
			}
			sorted := slices.Sorted(slices.Values(reached))
			want := max(0, sorted[(len(l)-1)/2])
			agrees(t, api.Conf{Old: l}, l, reached, want)
			agrees(t, api.Conf{Old: l, New: l}, l, reached, want)
			for i, n := range l { // the one who is alone in New decides if it is behind the others
				agrees(t, api.Conf{Old: l, New: []int{n}}, l, reached, max(0, min(want, reached[i])))
				agrees(t, api.Conf{Old: []int{n}, New: l}, l, reached, max(0, min(want, reached[i])))
			}
		}
	}
}

// P10.3: short lists of any sort: nodes that are there twice or belong to nobody, numbers below 0, lists of two lengths, members that are not valid.
func TestAgreedFollowsTheWords(t *testing.T) {
	confs := []api.Conf{{}, {New: []int{1}}, {Old: []int{1}}, {Old: []int{1, 2}}, {Old: []int{1, 2, 3}}, {Old: []int{3, 1}, New: []int{2}}, {Old: []int{1, 2}, New: []int{2, 3}}, {Old: []int{2, 1, 2}}, {Old: []int{1, 1, 2, 2}}, {Old: []int{2}, New: []int{3, 3, 1}}, {Old: []int{0, -1, 9}}, {Old: []int{2}, Learners: []int{1, 3}}}
	ns, vs := lists(3, 1, 2, 3, 9), lists(3, -1, 0, 1, 2)
	for _, c := range confs {
		for _, n := range ns {
			for _, v := range vs {
				agrees(t, c, n, v, agreed(c, n, v))
			}
		}
	}
}

// P10.3: longer lists of any sort, and any numbers.
func TestAgreedOfLongLists(t *testing.T) {
	r := rand.New(rand.NewPCG(4, 4))
	out := append(nodes(every-1), far...)
	numbers := append([]int{1, 2, 3, 4, 5, 6, 7, 8, 9, 10, top - 1, 1 << 62}, far...)
	for i := range 40000 {
		all, width := out, len(out)
		if i%2 == 0 {
			all, width = out[:most], 3+i%5
		}
		c := api.Conf{Old: some(r, 7, all[:width]...), New: some(r, 4*(i%3), all[:width]...), Learners: some(r, 3, all...)}
		n, v := some(r, 14, all...), some(r, 14, numbers...)
		agrees(t, c, n, v, agreed(c, n, v))
	}
}

// P10.3: numbers at the ends of int, and the edge above 0.
func TestAgreedAtTheEnds(t *testing.T) {
	three, l := api.Conf{Old: []int{1, 2, 3}}, []int{1, 2, 3}
	for _, v := range append([]int{1, 2, top - 1}, far...) {
		want := max(0, v)
		agrees(t, three, l, []int{v, v, v}, want)
		agrees(t, three, l, []int{v, v}, want)
		agrees(t, three, l, []int{v}, 0)
		agrees(t, three, l, []int{math.MinInt, v, v}, want)
		agrees(t, three, l, []int{v, math.MaxInt, math.MinInt}, want)
		agrees(t, three, l, []int{math.MaxInt, math.MaxInt, v}, math.MaxInt)
		agrees(t, three, l, []int{v, math.MinInt, math.MinInt}, 0)
		agrees(t, three, l, []int{v, 1, 1}, 1)
		agrees(t, api.Conf{Old: []int{v}}, []int{v}, []int{5}, 5)
		agrees(t, api.Conf{Old: []int{v}}, []int{v}, []int{0}, 0)
		agrees(t, api.Conf{Old: []int{v}}, []int{v}, []int{-5}, 0)
	}
}

// P10.3: a node that is there twice has reached both numbers, in whatever order; elements without a counterpart count for nothing.
func TestAgreedOfUnevenLists(t *testing.T) {
	three := api.Conf{Old: []int{1, 2, 3}}
	agrees(t, three, []int{1, 1, 2}, []int{9, 4, 6}, 6)
	agrees(t, three, []int{1, 1, 2}, []int{4, 9, 6}, 6)
	agrees(t, three, []int{1, 1, 1}, []int{9, 9, 9}, 0)
	agrees(t, three, []int{2, 1, 2}, []int{3, 5, 8}, 5)
	agrees(t, three, []int{1, 2, 3}, []int{4, 4}, 4)
	agrees(t, three, []int{1, 2}, []int{3, 2, 9, 9}, 2)
	agrees(t, three, []int{1, 2, 3}, []int{1, 2, 3, 99}, 2)
	agrees(t, three, []int{1, 2, 3, 3, 3}, []int{1, 2, 3}, 2)
	agrees(t, three, []int{1, 9, 8}, []int{5, 7, 7}, 0)
	agrees(t, three, []int{1, 9, 2}, []int{9, 8, 7}, 7)
}

// quorums is the sets of nodes that are a quorum of members, for every set of nodes; the others are not there.
func quorums(old, new int) []int {
	c := api.Conf{Old: nodes(old), New: nodes(new)}
	var l []int
	for yes := range every {
		if quorum.Won(c, nodes(yes)) {
			l = append(l, yes)
		}
	}
	return l
}

// table is the quorums of all valid members, by New and Old.
func table() [every][every][]int {
	var all [every][every][]int
	for new := range every {
		for old := 1; old < every; old++ {
			all[new][old] = quorums(old, new)
		}
	}
	return all
}

// meet holds that each quorum of one list has with each of the other one a node of the voters in common.
func meet(t *testing.T, what string, a, b []int, voters int) {
	t.Helper()
	for _, x := range a {
		for _, y := range b {
			if x&y&voters == 0 {
				t.Fatalf("%s: the quorums %v and %v have none of %v in common", what, nodes(x), nodes(y), nodes(voters))
			}
		}
	}
}

// P10.4 for all valid members, and P10.5's first half: with one more node a quorum remains one.
func TestQuorumsOfAllMembers(t *testing.T) {
	all := table()
	for old := 1; old < every; old++ {
		for new := range every {
			now := all[new][old]
			if len(now) == 0 {
				t.Fatalf("%v, %v: no quorum at all", nodes(old), nodes(new))
			}
			meet(t, "one and the same members", now, now, old|new)
			if new != 0 {
				meet(t, "ahead of the change and amid it", all[0][old], now, old)
				meet(t, "amid the change and behind it", now, all[0][new], new)
			}
			for _, yes := range now {
				for n := range most {
					if _, ok := slices.BinarySearch(now, yes|1<<n); !ok {
						t.Fatalf("%v, %v: %v is a quorum, and with %d it is none", nodes(old), nodes(new), nodes(yes), n+1)
					}
				}
			}
		}
	}
	for old := 1; old < 16; old++ {
		for new := 1; new < 16; new++ {
			for next := 1; next < 16; next++ {
				meet(t, "amid one change and amid the next", all[new][old], all[next][new], new)
			}
		}
	}
}

// P10.5: for any members, whatever nodes are added.
func TestQuorumRemainsOne(t *testing.T) {
	r := rand.New(rand.NewPCG(5, 5))
	out := append(nodes(every-1), 0, 8, -1)
	for range 40000 {
		c := api.Conf{Old: some(r, 6, out...), New: some(r, 3, out...)}
		yes := some(r, 8, out...)
		if quorum.Won(c, yes) {
			won(t, c, append(yes, some(r, 5, out...)...), true)
			won(t, c, append(some(r, 5, out...), yes...), true)
		}
	}
}

// P10.5: Agreed is not below what a quorum has reached, and does not decrease.
func TestAgreedDoesNotDecrease(t *testing.T) {
	r := rand.New(rand.NewPCG(6, 6))
	for range 20000 {
		c := api.Conf{Old: nodes(1 + r.IntN(every-1)), New: nodes(r.IntN(every) * r.IntN(2))}
		l, reached := nodes(every-1), make([]int, most)
		yes := nodes(r.IntN(every))
		v := 1 + r.IntN(9)
		for _, n := range yes {
			reached[n-1] = v + r.IntN(4)
		}
		first := quorum.Agreed(c, l, reached)
		if quorum.Won(c, yes) && first < v {
			t.Errorf("Agreed(%v, %v, %v) = %d, and the quorum %v has reached %d", c, l, reached, first, yes, v)
		}
		for range 8 {
			reached[r.IntN(most)] += r.IntN(5)
			next := quorum.Agreed(c, l, reached)
			if next < first {
				t.Errorf("Agreed(%v, %v, %v) = %d, ahead of it %d", c, l, reached, next, first)
			}
			first = next
		}
	}
}

// Agreed is a number that a quorum has reached, and Won says the same of those who have reached it.
func TestAgreedAndWonFit(t *testing.T) {
	r := rand.New(rand.NewPCG(7, 7))
	for range 20000 {
		c := api.Conf{Old: nodes(r.IntN(every)), New: nodes(r.IntN(every) * r.IntN(2))}
		l, reached := nodes(every-1), make([]int, most)
		for i := range reached {
			reached[i] = r.IntN(9)
		}
		got := quorum.Agreed(c, l, reached)
		for v := 1; v <= 9; v++ {
			var set []int
			for i, n := range l {
				if reached[i] >= v {
					set = append(set, n)
				}
			}
			won(t, c, set, v <= got)
		}
	}
}

// R1: each call ends, however long the lists are.
func TestVeryLongLists(t *testing.T) {
	const n = 1 << 18
	up, down, ones := make([]int, n), make([]int, n), make([]int, n)
	for i := range up {
		up[i], down[i], ones[i] = i+1, n-i, 1
	}
	for _, c := range []api.Conf{{Old: up}, {Old: ones}, {Old: down, New: up, Learners: up}, {Old: []int{1}, Learners: up}} {
		if got := quorum.Check(c); got != api.ErrConf {
			t.Errorf("Check of long lists: %d", got)
		}
	}
	long := api.Conf{Old: up, New: down, Learners: ones}
	if v, m := quorum.Voters(long), quorum.Members(long); !slices.Equal(v, up) || !slices.Equal(m, up) {
		t.Errorf("Voters, Members: %d, %d elements", len(v), len(m))
	}
	if l := quorum.Members(api.Conf{Learners: ones}); !slices.Equal(l, []int{1}) {
		t.Errorf("Members of one node, told again and again: %d elements", len(l))
	}
	if quorum.Won(long, up[:n/2]) || !quorum.Won(long, up[:n/2+1]) || !quorum.Won(long, down) {
		t.Error("Won of long lists")
	}
	if quorum.Won(api.Conf{Old: []int{1, 2}}, ones) || !quorum.Won(api.Conf{Old: ones}, []int{1}) {
		t.Error("Won of one node, told again and again")
	}
	if got := quorum.Agreed(long, up, up); got != n/2 {
		t.Errorf("Agreed of long lists: %d", got)
	}
	if got := quorum.Agreed(api.Conf{Old: []int{1}}, ones, up); got != n {
		t.Errorf("Agreed of one node, told again and again: %d", got)
	}
}

// kept is a list with numbers behind its end, so that a write there is seen.
func kept(l []int) []int { return append(slices.Clone(l), 71, 72, 73)[:len(l)] }

func untouched(t *testing.T, what string, got, want []int) {
	t.Helper()
	if !slices.Equal(got, want) || !slices.Equal(got[len(got):len(got)+3], []int{71, 72, 73}) {
		t.Errorf("%s: %v with %v behind it, it was %v", what, got, got[len(got):len(got)+3], want)
	}
}

// R3: no call changes a list or the memory behind it; and what lies there does not count.
func TestArgumentsStay(t *testing.T) {
	r := rand.New(rand.NewPCG(8, 8))
	out := append(nodes(every-1), 0, 8, 71, 72)
	for range 4000 {
		want := [][]int{some(r, 5, out...), some(r, 5, out...), some(r, 5, out...), some(r, 7, out...), some(r, 7, out...)}
		old, new, learners, l, reached := kept(want[0]), kept(want[1]), kept(want[2]), kept(want[3]), kept(want[4])
		c := api.Conf{Old: old, New: new, Learners: learners}
		checks(t, c)
		won(t, c, l, enough(c, l))
		agrees(t, c, l, reached, agreed(c, l, reached))
		for i, got := range [][]int{old, new, learners, l, reached} {
			untouched(t, "an argument", got, want[i])
		}
	}
}

// R3: what is answered is new memory, its spare capacity too.
func TestAnswersAreNewMemory(t *testing.T) {
	r := rand.New(rand.NewPCG(9, 9))
	for range 4000 {
		old, new, learners := nodes(r.IntN(every)), nodes(r.IntN(every)*r.IntN(2)), nodes(r.IntN(every)*r.IntN(2))
		c := api.Conf{Old: kept(old), New: kept(new), Learners: kept(learners)}
		for _, call := range []func(api.Conf) []int{quorum.Voters, quorum.Members} {
			first, second := call(c), call(c)
			want := slices.Clone(second)
			whole := first[:cap(first)]
			for i := range whole {
				whole[i] = 55
			}
			if !slices.Equal(second, want) || !slices.Equal(call(c), want) {
				t.Errorf("%v: %v, it was %v", c, second, want)
			}
			untouched(t, "Old", c.Old, old)
			untouched(t, "New", c.New, new)
			untouched(t, "Learners", c.Learners, learners)
			shared := api.Conf{Old: kept(old), New: kept(new), Learners: kept(learners)}
			answer := call(shared)
			for _, l := range [][]int{shared.Old, shared.New, shared.Learners} {
				for i := range l[:len(l)+3] {
					l[:len(l)+3][i] = 66
				}
			}
			if !slices.Equal(answer, want) {
				t.Errorf("the members were changed behind the call: %v, it was %v", answer, want)
			}
		}
	}
}

// R3: one list as two arguments or at two places is as good as two lists.
func TestOneListTwice(t *testing.T) {
	for mask := 1; mask < every; mask++ {
		l := kept(nodes(mask))
		c := api.Conf{Old: l, New: l, Learners: l}
		checks(t, c)
		won(t, c, l, true)
		want := agreed(c, nodes(mask), nodes(mask))
		agrees(t, c, l, l, want)
		untouched(t, "the list", l, nodes(mask))
	}
}

// R4: the same calls have the same results, whatever came between.
func TestAnswersRecur(t *testing.T) {
	r := rand.New(rand.NewPCG(10, 10))
	out := append(nodes(every-1), far...)
	for range 2000 {
		c := api.Conf{Old: some(r, 7, out...), New: some(r, 3, out...), Learners: some(r, 3, out...)}
		l, reached := some(r, 12, out...), some(r, 12, 1, 2, 3, 4, 5, 6, 7, 8, 9)
		e, yes, v := quorum.Check(c), quorum.Won(c, l), quorum.Agreed(c, l, reached)
		voters, members := quorum.Voters(c), quorum.Members(c)
		for range 5 {
			quorum.Agreed(api.Conf{Old: l}, reached, l)
			quorum.Won(api.Conf{Old: reached}, reached)
			if quorum.Check(c) != e || quorum.Won(c, l) != yes || quorum.Agreed(c, slices.Clone(l), slices.Clone(reached)) != v {
				t.Fatalf("%v, %v, %v: another answer the second time", c, l, reached)
			}
			if !slices.Equal(quorum.Voters(c), voters) || !slices.Equal(quorum.Members(c), members) {
				t.Fatalf("%v: others the second time", c)
			}
		}
	}
}
