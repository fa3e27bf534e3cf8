package draws_test

import (
	"math"
	"math/big"
	"math/rand/v2"
	"slices"
	"testing"

	"glebe/draws"
)

// edges are numbers that a list may hold and that Next may be given, the ends of int among them.
var edges = []int{
	math.MinInt, math.MinInt + 1, math.MinInt + 2, math.MinInt / 2, -1 << 32, -1<<31 - 1, -1 << 31, -1<<31 + 1, -1000, -256, -10, -9, -3, -2, -1,
	0, 1, 2, 3, 7, 9, 10, 255, 256, 1000, 1<<31 - 1, 1 << 31, 1<<31 + 1, 1 << 32, 1<<32 + 1, math.MaxInt / 2, math.MaxInt/2 + 1, math.MaxInt/2 + 2, math.MaxInt - 1, math.MaxInt,
}

// noNumbers are what Next may be given below 1.
var noNumbers = []int{0, -1, -2, -3, -10, -256, -1 << 31, -1 << 32, math.MinInt / 2, math.MinInt + 1, math.MinInt}

// lists are of none, of one number, and of many of all sorts.
func lists() [][]int {
	l := [][]int{nil, {}, {0}, {1}, {-1}, {7}, {-10}, {math.MinInt}, {math.MaxInt}, {5, -1, 7}, {0, 0, 0, 4}, {3, 3}, edges}
	for _, n := range []int{2, 9, 64, 1000} {
		l = append(l, row(1, n))
	}
	return l
}

// row is the same n numbers at every run: what a test finds must be found again.
func row(seed uint64, n int) []int {
	r := rand.New(rand.NewPCG(seed, uint64(n)))
	l := make([]int, n)
	for i := range l {
		l[i] = int(r.Uint64()) >> r.IntN(64)
	}
	return l
}

// remainder is the one that is not below 0, in mathematical integers; 0 if n is below 1.
func remainder(v, n int) int {
	if n < 1 {
		return 0
	}
	m := new(big.Int).Mod(big.NewInt(int64(v)), big.NewInt(int64(n))) // Euclid's, whatever v's sign
	return int(m.Int64())
}

// number is the next number of a list of which so many were drawn.
func number(l []int, count int) int {
	if count >= len(l) {
		return 0
	}
	return l[count]
}

func next(t *testing.T, what string, d *draws.Draws, n, want int) {
	t.Helper()
	if got := d.Next(n); got != want {
		t.Errorf("%s: Next(%d) = %d, want %d", what, n, got, want)
	}
}

func count(t *testing.T, what string, d *draws.Draws, want int) {
	t.Helper()
	if got := d.Count(); got != want {
		t.Errorf("%s: Count = %d, want %d", what, got, want)
	}
}

// after is draws from l of which so many were drawn, by a wide n.
func after(l []int, drawn int) *draws.Draws {
	d := draws.New(l)
	for range drawn {
		d.Next(math.MaxInt)
	}
	return d
}

// all is what draws answer to calls of Next, and what they count at the end.
func all(d *draws.Draws, ns []int) []int {
	var l []int
	for _, n := range ns {
		l = append(l, d.Next(n))
	}
	return append(l, d.Count())
}

// P5.1 and P5.2, the chapter's table, with Count between the draws too.
func TestExamples(t *testing.T) {
	d := draws.New([]int{5, -1, 7})
	count(t, "new", d, 0)
	for i, x := range [][2]int{{3, 2}, {3, 2}, {0, 0}, {9, 0}} {
		next(t, "5, -1, 7", d, x[0], x[1])
		count(t, "5, -1, 7", d, i+1)
	}
	d = draws.New([]int{5, -1, 7})
	if got := all(d, []int{3, 3, 0, 9}); !slices.Equal(got, []int{2, 2, 0, 0, 4}) {
		t.Errorf("5, -1, 7: %v", got)
	}
	for _, none := range [][]int{nil, {}} {
		d := draws.New(none)
		next(t, "none", d, 5, 0)
		count(t, "none", d, 1)
	}
}

// P5.1: of no list was anything drawn yet, and the first draw is of its first number.
func TestNewHasNoneDrawn(t *testing.T) {
	for _, l := range lists() {
		d := draws.New(l)
		if d == nil {
			t.Fatalf("%v: no draws", l)
		}
		count(t, "new", d, 0)
		next(t, "new", d, math.MaxInt, remainder(number(l, 0), math.MaxInt))
		count(t, "drawn from once", d, 1)
	}
}

// P5.2: each number is drawn once, in the list's order; up to its end, at it, and far behind it.
func TestNextGoesThroughTheList(t *testing.T) {
	for _, l := range lists() {
		for _, n := range []int{1, 2, 10, 256, 1 << 32, math.MaxInt} {
			d := draws.New(l)
			for i, v := range l {
				next(t, "in the list", d, n, remainder(v, n))
				count(t, "in the list", d, i+1)
			}
			for i := range 100 {
				next(t, "behind the list", d, n, 0)
				count(t, "behind the list", d, len(l)+i+1)
			}
		}
	}
}

// P5.2: a list that is longer than any short one, and draws that go on far behind it.
func TestLongListAndFarBehindIt(t *testing.T) {
	l := row(2, 1<<17)
	d := draws.New(l)
	for i, v := range l {
		if n := 1 + i%1000; d.Next(n) != remainder(v, n) {
			t.Fatalf("number %d, %d: not its remainder by %d", i, v, n)
		}
	}
	count(t, "at the end", d, len(l))
	for i := range 1 << 20 {
		if got := d.Next(i + 1); got != 0 {
			t.Fatalf("%d behind the end: %d", i, got)
		}
	}
	count(t, "far behind the end", d, len(l)+1<<20)
}

// P5.2: the remainder, spelt out by counting on from a multiple: by every small n, of numbers on both sides of 0.
func TestRemaindersOfSmallNumbers(t *testing.T) {
	for n := 1; n <= 40; n++ {
		var l []int
		for v := -5 * n; v <= 5*n+n/2; v++ {
			l = append(l, v)
		}
		d := draws.New(l)
		want := 0 // the list begins with a multiple
		for range l {
			next(t, "small numbers", d, n, want)
			if want++; want == n {
				want = 0
			}
		}
	}
}

// near are numbers about the multiples of n and the ends of int.
func near(n int) []int {
	l := append([]int{0, 1, -1, n - 1, n, -n, 1 - n}, edges...)
	if n < math.MaxInt {
		l = append(l, n+1, -n-1)
	}
	if n < math.MaxInt/2 {
		l = append(l, 2*n-1, 2*n, 2*n+1, -2*n-1, -2*n, -2*n+1)
	}
	least, most := math.MinInt/n*n, math.MaxInt/n*n // the outermost multiples
	return append(l, least, least+1, most, most-1)
}

// P5.2: numbers about each n, those below 0 that n divides and those that it doesn't, and the ends of int.
func TestRemaindersAboutEachN(t *testing.T) {
	for _, n := range append([]int{4, 5, 6, 8, 11, 60, 64, 100}, edges...) {
		if n < 1 {
			continue
		}
		l := near(n)
		d := draws.New(l)
		for _, v := range l {
			got := d.Next(n)
			if got < 0 || got >= n {
				t.Errorf("%d modulo %d: %d, not from 0 to %d", v, n, got, n-1)
			}
			if want := remainder(v, n); got != want {
				t.Errorf("%d modulo %d: %d, want %d", v, n, got, want)
			}
		}
		count(t, "numbers about n", d, len(l))
	}
}

// P5.2: some remainders at the ends of int, written out.
func TestRemaindersAtTheEnds(t *testing.T) {
	for _, x := range []struct{ v, n, want int }{
		{-10, 10, 0}, {-11, 10, 9}, {-9, 10, 1}, {-1, 10, 9}, {-1, 1, 0}, {9, 10, 9}, {10, 10, 0}, {11, 10, 1},
		{math.MaxInt, math.MaxInt, 0},
		{math.MaxInt - 1, math.MaxInt, math.MaxInt - 1},
		{-math.MaxInt, math.MaxInt, 0},
		{math.MinInt, math.MaxInt, math.MaxInt - 1},
		{-1, math.MaxInt, math.MaxInt - 1},
		{math.MinInt, 1, 0},
		{math.MinInt, 2, 0},
		{math.MinInt + 1, 2, 1},
		{math.MinInt, 3, 1},
		{math.MinInt, 10, 2},
		{math.MaxInt, 2, 1},
		{math.MaxInt, 10, 7},
		{1<<62 + 1, 1<<62 + 2, 1<<62 + 1},
		{math.MinInt, 1 << 62, 0},
		{-1<<62 - 1, 1 << 62, 1<<62 - 1},
	} {
		d := draws.New([]int{x.v})
		next(t, "one number", d, x.n, x.want)
		count(t, "one number", d, 1)
	}
}

// P5.2: with n below 1 the answer is 0, whatever the number is, and that draw counts: its number is gone.
func TestDrawsWithNBelow1Count(t *testing.T) {
	for _, n := range noNumbers {
		l := append(near(7), 3, 5)
		d := draws.New(l)
		for i := range l[:len(l)-1] {
			next(t, "n below 1", d, n, 0)
			count(t, "n below 1", d, i+1)
		}
		next(t, "behind draws with n below 1", d, 10, 5)
		next(t, "behind the list", d, 10, 0)
		for i := range 20 {
			next(t, "behind the list", d, n, 0)
			count(t, "behind the list", d, len(l)+2+i)
		}
		none := draws.New(nil)
		next(t, "an empty list", none, n, 0)
		count(t, "an empty list", none, 1)
	}
}

// P5.2: Count ahead of every draw, between them and behind them, once and again: it is no draw.
func TestCountDrawsNothing(t *testing.T) {
	for _, l := range lists() {
		for _, n := range []int{math.MinInt, 0, 1, 10, math.MaxInt} {
			d := draws.New(l)
			for i := range len(l) + 9 {
				for range 3 {
					count(t, "asked again and again", d, i)
				}
				next(t, "asked how many ahead of it", d, n, remainder(number(l, i), n))
			}
			for range 3 {
				count(t, "behind all", d, len(l)+9)
			}
		}
	}
}

// P5.3: whatever the values of n were ahead of a place, what is drawn there is the same.
func TestEarlierValuesOfNDoNotMatter(t *testing.T) {
	ahead := [][]int{{1}, {2}, {3, 10}, {0}, {-1, 5}, {math.MinInt}, {math.MaxInt}, {math.MaxInt, 0, 1}, noNumbers, edges}
	for _, l := range [][]int{nil, {-4}, {5, -1, 7}, edges, row(3, 30)} {
		for place := range len(l) + 4 {
			for _, n := range []int{1, 2, 3, 10, 1000, math.MaxInt, 0, -5} {
				want := after(l, place).Next(n)
				if words := remainder(number(l, place), n); want != words {
					t.Errorf("%v, place %d: Next(%d) = %d, want %d", l, place, n, want, words)
				}
				for _, ns := range ahead {
					d := draws.New(l)
					for i := range place {
						d.Next(ns[i%len(ns)])
					}
					count(t, "ahead of the place", d, place)
					next(t, "the place", d, n, want)
				}
			}
		}
	}
}

// P5.3: all rows of four values of n out of some, held against the numbers at their places.
func TestRowsOfValuesOfN(t *testing.T) {
	l, ns := []int{-8, 12, math.MinInt}, []int{-1, 0, 1, 2, 5, 9, math.MaxInt}
	k := len(ns)
	for at := range k * k * k * k {
		d := draws.New(l)
		for i, n := range []int{ns[at%k], ns[at/k%k], ns[at/k/k%k], ns[at/k/k/k]} {
			count(t, "rows of four", d, i)
			next(t, "rows of four", d, n, remainder(number(l, i), n))
		}
		count(t, "rows of four", d, 4)
	}
}

// P5.1 to P5.3: long scripts of all sorts, held against the chapter's words.
func TestScriptsFollowTheWords(t *testing.T) {
	for seed := range uint64(500) {
		r := rand.New(rand.NewPCG(seed, 4))
		l := row(seed, r.IntN(60))
		for i := range l {
			if r.IntN(4) == 0 {
				l[i] = edges[r.IntN(len(edges))]
			}
		}
		d, drawn := draws.New(l), 0
		for range 90 {
			switch n := int(r.Uint64()) >> r.IntN(64); r.IntN(5) {
			case 0:
				count(t, "a script", d, drawn)
			case 1:
				n = edges[r.IntN(len(edges))]
				fallthrough
			default:
				next(t, "a script", d, n, remainder(number(l, drawn), n))
				drawn++
			}
		}
		count(t, "a script", d, drawn)
	}
}

// Two draws, from one list or from two, have nothing in common: neither numbers nor counts.
func TestTwoDrawsSideBySide(t *testing.T) {
	for _, l := range lists() {
		a, b, other := draws.New(l), draws.New(l), draws.New([]int{41, 42, 43})
		next(t, "another list", other, 100, 41)
		for i := range len(l) + 3 {
			next(t, "the first", a, 1000, remainder(number(l, i), 1000))
			count(t, "the first", a, i+1)
			count(t, "the second", b, i/2)
			if i%2 == 1 { // the second is half as fast, and by another n
				next(t, "the second", b, 7, remainder(number(l, i/2), 7))
			}
		}
		count(t, "another list", other, 1)
		next(t, "another list", other, 100, 42)
		late := draws.New(l)
		count(t, "made late", late, 0)
		next(t, "made late", late, 1000, remainder(number(l, 0), 1000))
	}
}

// R3: later changes of the list, and of the memory behind it, have no effect, whenever they come.
func TestListIsNotKept(t *testing.T) {
	for _, want := range lists() {
		for _, early := range []int{0, 1, len(want) / 2, len(want), len(want) + 1} {
			l := append(slices.Clone(want), 77, 78, 79)[:len(want)]
			d := after(l, early)
			for i := range l {
				l[i] = 55
			}
			copy(l[len(l):len(l)+3], []int{65, 66, 67}) // as an append to it would
			for i := early; i < len(want)+5; i++ {
				next(t, "the list was changed", d, 1000, remainder(number(want, i), 1000))
			}
			count(t, "the list was changed", d, max(early, len(want)+5))
		}
	}
}

// R3: neither New nor a draw changes the list or the memory behind it.
func TestListIsNotChanged(t *testing.T) {
	for _, want := range lists() {
		l := append(slices.Clone(want), 77, 78, 79)[:len(want)]
		d := draws.New(l)
		for i := range len(want) + 9 {
			d.Next(edges[i%len(edges)])
			d.Count()
		}
		if !slices.Equal(l, want) || !slices.Equal(l[len(l):len(l)+3], []int{77, 78, 79}) {
			t.Errorf("%v: it is %v with %v behind it", want, l, l[len(l):len(l)+3])
		}
	}
}

// P5.2: what lies in the memory behind the list is not the list's.
func TestNextDoesNotReadBehindTheList(t *testing.T) {
	l := []int{11, 12, 13, 14}
	for n := range len(l) + 1 {
		d := draws.New(l[:n])
		for i := range len(l) + 2 {
			if i < n {
				next(t, "in the list", d, 100, l[i])
			} else {
				next(t, "behind the list", d, 100, 0)
			}
		}
	}
}

// R4: the same calls have the same results, on new draws from the same numbers, whatever came between.
func TestSameCallsSameResults(t *testing.T) {
	r := rand.New(rand.NewPCG(5, 5))
	ns := append(slices.Clone(edges), noNumbers...)
	for range 200 {
		ns = append(ns, int(r.Uint64())>>r.IntN(64))
	}
	for _, l := range lists() {
		first := all(draws.New(l), ns)
		for range 3 {
			all(draws.New(row(6, 50)), ns[:20])
			if again := all(draws.New(slices.Clone(l)), ns); !slices.Equal(again, first) {
				t.Fatalf("%v: other answers the second time: %v, %v", l, again, first)
			}
		}
	}
	if none, empty := all(draws.New(nil), ns), all(draws.New([]int{}), ns); !slices.Equal(none, empty) {
		t.Errorf("nil and an empty list: %v, %v", none, empty)
	}
}
