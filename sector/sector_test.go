package sector_test

import (
	"bytes"
	"fmt"
	"math"
	"math/rand/v2"
	"slices"
	"strings"
	"testing"

	"glebe/api"
	"glebe/sector"
)

// The document's numbers, held against api's by TestLimits.
const (
	most = 16384
	size = 64
)

// far are numbers that are no sector of any disk.
var far = []int{math.MinInt, math.MinInt + 1, -most, -2, -1, most, most + 1, 1 << 32, math.MaxInt - 1, math.MaxInt}

// fates are what a list of a Crash may hold: lost, durable, and all sorts of torn.
var fates = []int{0, 1, 2, 3, -1, -2, 256, 1 << 32, 1<<32 + 1, math.MinInt, math.MaxInt}

// row is the same n bytes at every run: what a test finds must be found again.
func row(seed uint64, n int) []byte {
	r := rand.New(rand.NewPCG(seed, uint64(n)))
	b := make([]byte, n)
	for i := range b {
		b[i] = byte(r.Uint32())
	}
	return b
}

func fresh(t *testing.T, n int) *sector.Disk {
	t.Helper()
	d, e := sector.New(n)
	if d == nil || e != api.OK {
		t.Fatalf("New of %d: %v, %d", n, d, e)
	}
	return d
}

func write(t *testing.T, d *sector.Disk, i int, b ...byte) {
	t.Helper()
	if e := d.Write(i, b); e != api.OK {
		t.Fatalf("Write of %d bytes to sector %d: %d", len(b), i, e)
	}
}

func flush(t *testing.T, d *sector.Disk) {
	t.Helper()
	if e := d.Flush(); e != api.OK {
		t.Fatalf("Flush: %d", e)
	}
}

// answers holds the error of a call against the one that is asked for.
func answers(t *testing.T, what string, got, want api.Errno) {
	t.Helper()
	if got != want {
		t.Errorf("%s: %d, want %d", what, got, want)
	}
}

func holds(t *testing.T, what string, d *sector.Disk, i int, want ...byte) {
	t.Helper()
	if b, e := d.Read(i); !bytes.Equal(b, want) || e != api.OK {
		t.Errorf("%s: sector %d is %X, %d; want %X, OK", what, i, b, e, want)
	}
}

// unreadable holds Read against an error, beside which there are no bytes (R2).
func unreadable(t *testing.T, what string, d *sector.Disk, i int, want api.Errno) {
	t.Helper()
	if b, e := d.Read(i); len(b) != 0 || e != want {
		t.Errorf("%s: sector %d is %X, %d; want none, %d", what, i, b, e, want)
	}
}

func dirty(t *testing.T, what string, d *sector.Disk, want ...int) {
	t.Helper()
	if l := d.Dirty(); !slices.Equal(l, want) {
		t.Errorf("%s: dirty are %v, want %v", what, l, want)
	}
}

// powered holds Down against what is asked for.
func powered(t *testing.T, what string, d *sector.Disk, on bool) {
	t.Helper()
	if d.Down() == on {
		t.Errorf("%s: Down is %v", what, d.Down())
	}
}

// disk is what the program's disk and the one by the document's words have in common.
type disk interface {
	Write(i int, b []byte) api.Errno
	Flush() api.Errno
	Read(i int) ([]byte, api.Errno)
	Len() int
	Dirty() []int
	Arm(n int)
	Down() bool
	Crash(l []int)
}

// step is a call of a script, with the words to tell it by.
type step struct {
	told string
	do   func(d disk) api.Errno
}

func writes(i int, b []byte) step {
	return step{fmt.Sprintf("Write %d, %X", i, b), func(d disk) api.Errno { return d.Write(i, b) }}
}

func flushes() step { return step{"Flush", disk.Flush} }

func arms(n int) step {
	return step{fmt.Sprintf("Arm %d", n), func(d disk) api.Errno { d.Arm(n); return api.OK }}
}

func crashes(l ...int) step {
	return step{fmt.Sprintf("Crash %v", l), func(d disk) api.Errno { d.Crash(l); return api.OK }}
}

func told(script []step) string {
	var l []string
	for _, s := range script {
		l = append(l, s.told)
	}
	return strings.Join(l, "; ")
}

// run is a disk of n sectors on which a script was run.
func run(t *testing.T, n int, script ...step) *sector.Disk {
	t.Helper()
	d := fresh(t, n)
	for _, s := range script {
		s.do(d)
	}
	return d
}

// sectors is what Read answers for each sector and for the numbers beside the first and the last one.
func sectors(d disk) string {
	var s strings.Builder
	for i := -1; i <= d.Len(); i++ {
		b, e := d.Read(i)
		fmt.Fprintf(&s, "%d:%X/%d ", i, b, e)
	}
	return s.String()
}

// seen is what can be read from a disk without changing it.
func seen(d disk) string {
	return fmt.Sprint(d.Len(), " ", d.Down(), " ", len(d.Dirty()), d.Dirty(), " ", sectors(d))
}

// left is the number of operations until the power fails, up to twenty.
func left(d disk) int {
	for n := range 20 {
		if d.Flush() != api.OK {
			return n
		}
	}
	return 20
}

// hidden is what a script leaves that only further calls show: the durable states beneath the cache, and the operations that are left.
func hidden(t *testing.T, n int, script ...step) string {
	t.Helper()
	beneath := run(t, n, script...)
	beneath.Crash(nil)
	return fmt.Sprint(sectors(beneath), left(run(t, n, script...)))
}

// scripts lead to disks of three sectors of all sorts; the power of each is on and not armed.
func scripts() [][]step {
	a, b, c := row(1, 1), row(2, 63), row(3, size)
	return [][]step{
		nil,
		{writes(0, a)},
		{writes(2, nil)},
		{writes(0, a), writes(1, b), writes(2, c)},
		{writes(0, a), writes(1, b), flushes()},
		{writes(0, a), flushes(), writes(0, b), writes(1, c)},
		{writes(1, a), writes(2, b), crashes(2, 1)},
		{writes(1, a), writes(2, b), crashes(2, 2), writes(1, c)},
		{writes(0, a), writes(1, a), flushes(), writes(0, b), crashes(-1), writes(0, nil), writes(2, c)},
	}
}

func TestLimits(t *testing.T) {
	if api.MaxSectors != most || api.SectorSize != size {
		t.Errorf("api has %d sectors of %d bytes, the document %d of %d", api.MaxSectors, api.SectorSize, most, size)
	}
}

// P4.2 to P4.5, the chapter's table, a disk for each of its rows.
func TestExamples(t *testing.T) {
	d := fresh(t, 4)
	answers(t, "Write 1, 07", d.Write(1, []byte{7}), api.OK)
	holds(t, "in the cache", d, 1, 7)
	dirty(t, "one was written", d, 1)
	d.Crash(nil)
	holds(t, "lost", d, 1)

	d = fresh(t, 4)
	answers(t, "Write 1, 07", d.Write(1, []byte{7}), api.OK)
	answers(t, "Flush", d.Flush(), api.OK)
	answers(t, "Write 1, 08", d.Write(1, []byte{8}), api.OK)
	answers(t, "Write 2, 09", d.Write(2, []byte{9}), api.OK)
	d.Crash([]int{2, 1})
	unreadable(t, "torn", d, 1, api.ErrTorn)
	holds(t, "durable", d, 2, 9)

	answers(t, "Write 1, 0A", d.Write(1, []byte{10}), api.OK)
	holds(t, "in the cache", d, 1, 10)
	d.Crash([]int{0})
	unreadable(t, "torn as before", d, 1, api.ErrTorn)

	d = fresh(t, 4)
	d.Arm(1)
	answers(t, "Write 9", d.Write(9, nil), api.ErrRange)
	answers(t, "Write 3", d.Write(3, nil), api.OK)
	answers(t, "Flush", d.Flush(), api.ErrDown)
	powered(t, "it has failed", d, false)
	holds(t, "without power", d, 3)
}

// P4.1 and R2
func TestNewOfNoDisk(t *testing.T) {
	for _, n := range append([]int{0, 1<<32 + 4}, far...) {
		if n == most {
			continue
		}
		if d, e := sector.New(n); d != nil || e != api.ErrRange {
			t.Errorf("New of %d: %v, %d; want none, ErrRange", n, d, e)
		}
	}
}

// P4.1
func TestNewIsEmptyAndPowered(t *testing.T) {
	for _, n := range []int{1, 2, 3, 64, most - 1, most} {
		d := fresh(t, n)
		if d.Len() != n {
			t.Errorf("New of %d: %d sectors", n, d.Len())
		}
		powered(t, "new", d, true)
		dirty(t, "new", d)
		for i := range n {
			holds(t, "new", d, i)
		}
		for i := range 200 {
			answers(t, "Flush of a new disk", d.Flush(), api.OK)
			answers(t, "Write to a new disk", d.Write(i%n, []byte{byte(i)}), api.OK)
		}
		powered(t, "it was not armed", d, true)
	}
}

// P4.2: each length that a sector can have, in the cache and durable.
func TestWriteOfEachLength(t *testing.T) {
	d := fresh(t, 3)
	for n := range size + 1 {
		for _, b := range [][]byte{make([]byte, n), bytes.Repeat([]byte{0xFF}, n), row(4, n)} {
			write(t, d, 1, b...)
			holds(t, "in the cache", d, 1, b...)
			dirty(t, "written", d, 1)
			flush(t, d)
			holds(t, "durable", d, 1, b...)
			dirty(t, "flushed", d)
			holds(t, "beside it", d, 0)
			holds(t, "beside it", d, 2)
		}
	}
}

// P4.2: a shorter write replaces the whole of a longer one, durable or not.
func TestWriteReplacesAll(t *testing.T) {
	for _, n := range []int{0, 1, 63} {
		d := fresh(t, 1)
		write(t, d, 0, row(5, size)...)
		write(t, d, 0, row(6, n)...)
		holds(t, "written twice", d, 0, row(6, n)...)
		dirty(t, "written twice", d, 0)
		flush(t, d)
		holds(t, "written twice and flushed", d, 0, row(6, n)...)
		write(t, d, 0, row(7, size)...)
		flush(t, d)
		write(t, d, 0, row(8, n)...)
		holds(t, "over a durable one", d, 0, row(8, n)...)
		d.Crash([]int{1})
		holds(t, "over a durable one, and durable", d, 0, row(8, n)...)
	}
}

// P4.2: the first and the last sector of disks of all lengths, and the numbers beside them.
func TestWriteAtTheEnds(t *testing.T) {
	for _, n := range []int{1, 2, 3, 64, most - 1, most} {
		d := fresh(t, n)
		write(t, d, 0, 1)
		write(t, d, n-1, 2)
		holds(t, "the last one", d, n-1, 2)
		if n > 1 {
			holds(t, "the first one", d, 0, 1)
			dirty(t, "both ends", d, 0, n-1)
		}
		for _, i := range append([]int{n, n + 1, -n}, far...) {
			if i < 0 || i >= n {
				answers(t, fmt.Sprintf("Write to sector %d of %d", i, n), d.Write(i, []byte{3}), api.ErrRange)
				unreadable(t, "no sector", d, i, api.ErrRange)
			}
		}
		flush(t, d)
		dirty(t, "flushed", d)
		holds(t, "the last one, durable", d, n-1, 2)
	}
}

// refusals are calls that a powered disk of three sectors refuses, with the first error of those that apply.
func refusals() map[api.Errno][]step {
	m := map[api.Errno][]step{}
	for _, i := range append([]int{3, 4}, far...) {
		for _, n := range []int{0, 1, size, size + 1, 1000} {
			m[api.ErrRange] = append(m[api.ErrRange], writes(i, row(9, n)))
		}
	}
	for i := range 3 {
		for _, n := range []int{65, 66, 127, 128, 256, 320, 1 << 16} {
			m[api.ErrLong] = append(m[api.ErrLong], writes(i, row(10, n)))
		}
	}
	return m
}

// P4.2 and R2: a refused call has its error, and nothing of the disk is another.
func TestRefusedWrites(t *testing.T) {
	for _, script := range scripts() {
		for _, n := range []int{-1, 0, 1, 2} {
			script := append(slices.Clone(script), arms(n))
			before, beneath := seen(run(t, 3, script...)), hidden(t, 3, script...)
			for want, steps := range refusals() {
				for _, s := range steps {
					d := run(t, 3, script...)
					answers(t, told(append(slices.Clone(script), s)), s.do(d), want)
					if after := seen(d); after != before {
						t.Errorf("%s; %s: %s, before it %s", told(script), s.told, after, before)
					}
					if after := hidden(t, 3, append(slices.Clone(script), s)...); after != beneath {
						t.Errorf("%s; %s: hidden %s, before it %s", told(script), s.told, after, beneath)
					}
				}
			}
		}
	}
}

// P4.2 and P4.7: the power has failed: that error is the first one, and only the power has changed.
func TestCallsWithoutPower(t *testing.T) {
	var all []step
	for _, steps := range refusals() {
		all = append(all, steps...)
	}
	all = append(all, flushes(), writes(0, nil), writes(1, []byte{1}), writes(2, row(11, size)))
	for _, script := range scripts() {
		on := run(t, 3, script...)
		for _, fails := range []step{flushes(), writes(0, row(12, 9)), writes(2, nil)} {
			d := run(t, 3, append(slices.Clone(script), arms(0))...)
			answers(t, "the call that makes it fail", fails.do(d), api.ErrDown)
			powered(t, told(script)+"; Arm 0; "+fails.told, d, false)
			for range 2 {
				for _, s := range all {
					answers(t, "without power: "+s.told, s.do(d), api.ErrDown)
				}
			}
			if sectors(d) != sectors(on) || !slices.Equal(d.Dirty(), on.Dirty()) || !d.Down() {
				t.Errorf("%s; Arm 0; %s: %s, before it %s", told(script), fails.told, seen(d), seen(on))
			}
			d.Crash(nil)
			beneath := run(t, 3, append(slices.Clone(script), crashes())...)
			if seen(d) != seen(beneath) {
				t.Errorf("%s; Arm 0; %s: durable is %s, before it %s", told(script), fails.told, seen(d), seen(beneath))
			}
		}
	}
}

// P4.2: a Flush makes all of the cache durable, from however many writes, also where there was nothing to do.
func TestFlush(t *testing.T) {
	for _, script := range scripts() {
		d := run(t, 3, script...)
		want := sectors(d)
		for range 2 {
			flush(t, d)
			dirty(t, told(script)+"; Flush", d)
			if sectors(d) != want {
				t.Errorf("%s; Flush: %s, before it %s", told(script), sectors(d), want)
			}
			d.Crash([]int{2, 2, 2})
			if sectors(d) != want {
				t.Errorf("%s; Flush; Crash: %s, before it %s", told(script), sectors(d), want)
			}
		}
	}
}

// P4.2 and P4.5: a sector that is torn can be written, and is whole again once that is durable.
func TestTornIsWrittenAgain(t *testing.T) {
	for _, fate := range fates[2:] {
		for _, b := range [][]byte{nil, {7}, row(13, size)} {
			d := run(t, 2, writes(0, []byte{1}), flushes(), writes(0, []byte{2}), crashes(fate))
			unreadable(t, "torn", d, 0, api.ErrTorn)
			dirty(t, "torn", d)
			flush(t, d)
			unreadable(t, "torn, flushed", d, 0, api.ErrTorn)
			write(t, d, 0, b...)
			holds(t, "torn and written", d, 0, b...)
			dirty(t, "torn and written", d, 0)
			d.Crash([]int{0, 1})
			unreadable(t, "torn, written and lost", d, 0, api.ErrTorn)
			write(t, d, 0, b...)
			d.Crash([]int{fate})
			unreadable(t, "torn twice", d, 0, api.ErrTorn)
			write(t, d, 0, b...)
			d.Crash([]int{1})
			holds(t, "whole again by a Crash", d, 0, b...)
			write(t, d, 0, 9)
			d.Crash([]int{fate})
			write(t, d, 0, b...)
			flush(t, d)
			holds(t, "whole again by a Flush", d, 0, b...)
			d.Crash([]int{2})
			holds(t, "whole and not dirty", d, 0, b...)
			holds(t, "beside it", d, 1)
		}
	}
}

// P4.3: the power has failed, and all that does not write still works; a torn, a dirty, a durable and an empty sector.
func TestWhatWorksWithoutPower(t *testing.T) {
	d := run(t, 4, writes(0, []byte{1}), writes(1, []byte{2}), crashes(2, 1), writes(2, []byte{3}), writes(1, []byte{4}), arms(0), flushes())
	for range 3 {
		powered(t, "without power", d, false)
		unreadable(t, "torn", d, 0, api.ErrTorn)
		holds(t, "dirty over durable", d, 1, 4)
		holds(t, "dirty", d, 2, 3)
		holds(t, "empty", d, 3)
		for _, i := range append([]int{4, 5}, far...) {
			unreadable(t, "no sector", d, i, api.ErrRange)
		}
		dirty(t, "without power", d, 1, 2)
		if d.Len() != 4 {
			t.Errorf("without power: %d sectors", d.Len())
		}
	}
	d.Crash([]int{0, 1})
	powered(t, "it is back", d, true)
	holds(t, "lost", d, 1, 2)
	holds(t, "durable", d, 2, 3)
	unreadable(t, "torn before", d, 0, api.ErrTorn)
}

// P4.3 and R4: the dirty sectors are told in ascending order, in whatever order and how often they were written.
func TestDirtyIsAscending(t *testing.T) {
	for seed := range uint64(50) {
		r := rand.New(rand.NewPCG(seed, 14))
		d := fresh(t, 300)
		want := r.Perm(300)[:r.IntN(300)]
		for _, i := range slices.Concat(want, want[:len(want)/2]) {
			write(t, d, i, byte(i))
		}
		slices.Sort(want)
		dirty(t, "written in any order", d, want...)
		dirty(t, "asked again", d, want...)
	}
}

// P4.4 and P4.7: exactly n operations are performed, be they writes or flushes.
func TestArm(t *testing.T) {
	for n := range 12 {
		for kinds := range 1 << 4 {
			d := fresh(t, 2)
			d.Arm(n)
			var last byte
			for k := range n {
				powered(t, "some are left", d, true)
				if kinds>>(k%4)&1 == 1 {
					answers(t, "one of those left", d.Flush(), api.OK)
					continue
				}
				last = byte(k + 1)
				answers(t, "one of those left", d.Write(0, []byte{last}), api.OK)
			}
			before := sectors(d)
			powered(t, "none is left", d, true)
			if kinds&1 == 1 {
				answers(t, "one too many", d.Flush(), api.ErrDown)
			} else {
				answers(t, "one too many", d.Write(1, []byte{99}), api.ErrDown)
			}
			powered(t, "one too many", d, false)
			if sectors(d) != before || last != 0 && !strings.Contains(before, fmt.Sprintf("0:%02X/0 ", last)) {
				t.Errorf("Arm %d, kinds %b: %s, before the last call %s, written was %X", n, kinds, sectors(d), before, last)
			}
		}
	}
}

// P4.4: what only reads, and what is refused, is no operation.
func TestWhatIsNoOperation(t *testing.T) {
	for n := range 4 {
		d := run(t, 3, writes(1, []byte{1}), arms(n))
		for range 9 {
			d.Read(0)
			d.Read(1)
			d.Read(3)
			d.Len()
			d.Dirty()
			d.Down()
			for want, steps := range refusals() {
				answers(t, "refused", steps[0].do(d), want)
			}
		}
		if k := left(d); k != n {
			t.Errorf("Arm %d, calls that are no operations: %d were left", n, k)
		}
	}
}

// P4.4: a later Arm replaces an earlier one, also ahead of the call that would make the power fail.
func TestArmAgain(t *testing.T) {
	for first := range 5 {
		for used := range first + 1 {
			for second := range 6 {
				d := fresh(t, 1)
				d.Arm(first)
				for range used {
					flush(t, d)
				}
				d.Arm(second)
				if k := left(d); k != second {
					t.Errorf("Arm %d, %d operations, Arm %d: %d were left", first, used, second, k)
				}
			}
			for _, n := range []int{-1, -2, math.MinInt, math.MaxInt, 1 << 32} {
				d := fresh(t, 1)
				d.Arm(first)
				for range used {
					flush(t, d)
				}
				d.Arm(n)
				if k := left(d); k != 20 {
					t.Errorf("Arm %d, %d operations, Arm %d: %d were left", first, used, n, k)
				}
			}
		}
	}
}

// P4.4: Arm changes nothing else: not what is written, and not that the power has failed.
func TestArmChangesNothingElse(t *testing.T) {
	for _, script := range scripts() {
		for _, n := range []int{math.MinInt, -1, 0, 1, 2, math.MaxInt} {
			on := run(t, 3, script...)
			want := seen(on)
			on.Arm(n)
			if seen(on) != want {
				t.Errorf("%s; Arm %d: %s, before it %s", told(script), n, seen(on), want)
			}
			on.Crash(nil)
			if gone := run(t, 3, append(slices.Clone(script), crashes())...); seen(on) != seen(gone) {
				t.Errorf("%s; Arm %d; Crash: %s, without Arm %s", told(script), n, seen(on), seen(gone))
			}
			off := run(t, 3, append(slices.Clone(script), arms(0), flushes())...)
			want = seen(off)
			off.Arm(n)
			answers(t, "Flush without power", off.Flush(), api.ErrDown)
			answers(t, "Write without power", off.Write(0, nil), api.ErrDown)
			if seen(off) != want {
				t.Errorf("%s; without power, Arm %d: %s, before it %s", told(script), n, seen(off), want)
			}
			off.Crash(nil)
			if k := left(off); k != 20 {
				t.Errorf("%s; without power, Arm %d; Crash: %d operations were left", told(script), n, k)
			}
		}
	}
}

// lists are all lists of a Crash of up to n numbers.
func lists(n int) [][]int {
	all := [][]int{nil}
	for from := 0; n > 0; n-- {
		end := len(all)
		for ; from < end; from++ {
			for _, f := range []int{0, 1, 2, -1} {
				all = append(all, append(slices.Clone(all[from]), f))
			}
		}
	}
	return all
}

// P4.5: every list of up to five numbers, over a durable, a torn and an empty sector that are dirty, and one beside each.
func TestCrash(t *testing.T) {
	for _, l := range lists(5) {
		for _, fails := range [][]step{nil, {arms(0), flushes()}, {arms(3)}} {
			d := run(t, 7, writes(0, []byte{1}), writes(2, []byte{2}), writes(3, []byte{3}), writes(5, []byte{5}), crashes(1, 1, 1, 2))
			d.Write(5, []byte{15})
			d.Write(4, []byte{14})
			d.Write(2, []byte{12})
			for _, s := range fails {
				s.do(d)
			}
			d.Crash(l)
			powered(t, "after a Crash", d, true)
			dirty(t, "after a Crash", d)
			for j, i := range []int{2, 4, 5} {
				fate := append(slices.Clone(l), 0, 0, 0)[j]
				what := fmt.Sprintf("Crash %v", l)
				switch {
				case fate == 1:
					holds(t, what, d, i, byte(10+i))
				case fate != 0 || i == 5:
					unreadable(t, what, d, i, api.ErrTorn)
				case i == 2:
					holds(t, what, d, i, 2)
				default:
					holds(t, what, d, i)
				}
			}
			holds(t, "not dirty", d, 0, 1)
			holds(t, "not dirty", d, 1)
			holds(t, "not dirty", d, 3, 3)
			holds(t, "not dirty", d, 6)
			if k := left(d); k != 20 {
				t.Errorf("Crash %v: %d operations were left", l, k)
			}
		}
	}
}

// P4.5: any other number means torn, however great or small.
func TestCrashByEachNumber(t *testing.T) {
	for _, fate := range fates {
		for _, behind := range [][]int{nil, {0}, {1, 2, 1}, fates} {
			d := run(t, 2, writes(1, []byte{1}), flushes(), writes(1, []byte{2}), crashes(append([]int{fate}, behind...)...))
			switch fate {
			case 0:
				holds(t, "lost", d, 1, 1)
			case 1:
				holds(t, "durable", d, 1, 2)
			default:
				unreadable(t, fmt.Sprintf("torn by %d", fate), d, 1, api.ErrTorn)
			}
			holds(t, "beside it", d, 0)
		}
	}
}

// P4.5: the last one of two writes is the one that becomes durable; both are lost; the place in the list is the sector's, not the write's.
func TestCrashOfASectorWrittenTwice(t *testing.T) {
	for _, l := range [][]int{nil, {0, 1}, {1, 0}, {2, 1}, {1, 2}, {1, 1, 2}} {
		d := run(t, 3, writes(2, []byte{1}), writes(1, []byte{2}), writes(2, []byte{3}), writes(2, []byte{4}))
		dirty(t, "written twice", d, 1, 2)
		d.Crash(l)
		for j, b := range []byte{2, 4} {
			switch append(slices.Clone(l), 0, 0)[j] {
			case 0:
				holds(t, "lost", d, j+1)
			case 1:
				holds(t, "durable", d, j+1, b)
			default:
				unreadable(t, "torn", d, j+1, api.ErrTorn)
			}
		}
	}
}

// P4.5 and P4.6: a Crash with nothing dirty, as a second one behind another is, changes nothing but the power.
func TestCrashOfNothing(t *testing.T) {
	for _, script := range scripts() {
		for _, first := range lists(3) {
			d := run(t, 3, append(slices.Clone(script), crashes(first...))...)
			want := seen(d)
			for _, second := range [][]int{nil, {1, 1, 1}, {2, 2, 2}, {-1, 0, 1}} {
				d.Crash(second)
				if seen(d) != want {
					t.Errorf("%s; Crash %v; Crash %v: %s, before it %s", told(script), first, second, seen(d), want)
				}
			}
			d.Arm(0)
			d.Crash(nil)
			answers(t, "no longer armed", d.Flush(), api.OK)
			d.Arm(0)
			d.Flush()
			d.Crash([]int{2})
			if seen(d) != want {
				t.Errorf("%s; Crash %v; without power; Crash: %s, before it %s", told(script), first, seen(d), want)
			}
		}
	}
}

// P4.6: what could be read after a Flush can be read after any Crash, and so can what is not dirty.
func TestCrashKeepsWhatIsNotDirty(t *testing.T) {
	for seed := range uint64(3000) {
		r := rand.New(rand.NewPCG(seed, 15))
		n := 1 + r.IntN(9)
		d := fresh(t, n)
		for range 6 {
			for range r.IntN(6) {
				write(t, d, r.IntN(n), row(r.Uint64(), r.IntN(size+1))...)
			}
			if r.IntN(2) == 0 {
				flush(t, d)
				dirty(t, "flushed", d)
			}
			type answer struct {
				b []byte
				e api.Errno
			}
			var want []answer
			for i := range n {
				b, e := d.Read(i)
				want = append(want, answer{b, e})
			}
			were := d.Dirty()
			l := make([]int, r.IntN(n+2))
			for j := range l {
				l[j] = fates[r.IntN(len(fates))]
			}
			d.Crash(l)
			for i := range n {
				if b, e := d.Read(i); !slices.Contains(were, i) && (!bytes.Equal(b, want[i].b) || e != want[i].e) {
					t.Errorf("seed %d: sector %d, not dirty, is %X, %d after Crash %v; before it %X, %d", seed, i, b, e, l, want[i].b, want[i].e)
				}
			}
		}
	}
}

// P4.2, P4.3 and P4.5: the greatest disk, all of it dirty.
func TestGreatestDisk(t *testing.T) {
	d := fresh(t, most)
	l, all := make([]int, most), make([]int, most)
	for i := range most {
		all[i], l[most-1-i] = i, i%3
		write(t, d, most-1-i, byte(i), byte(i>>8))
	}
	dirty(t, "all of them", d, all...)
	d.Crash(l)
	dirty(t, "after a Crash", d)
	for i := range most {
		from := most - 1 - i
		switch l[i] {
		case 0:
			holds(t, "lost", d, i)
		case 1:
			holds(t, "durable", d, i, byte(from), byte(from>>8))
		default:
			unreadable(t, "torn", d, i, api.ErrTorn)
		}
	}
	for i := range most {
		write(t, d, i, byte(i>>8), byte(i), 1)
	}
	flush(t, d)
	d.Crash(l)
	for i := range most {
		holds(t, "flushed", d, i, byte(i>>8), byte(i), 1)
	}
}

// written is a Write that was performed.
type written struct {
	i int
	b string
}

// spelt is a disk by the document's words: what is in the cache is the writes since it was empty.
type spelt struct {
	n       int
	durable map[int]string
	torn    map[int]bool
	cache   []written
	further *int // operations, if it is armed
	failed  bool
}

func words(n int) *spelt { return &spelt{n: n, durable: map[int]string{}, torn: map[int]bool{}} }

func (d *spelt) would() bool {
	if d.further != nil && *d.further == 0 {
		d.failed = true
		return false
	}
	if d.further != nil {
		*d.further--
	}
	return true
}

func (d *spelt) Write(i int, b []byte) api.Errno {
	if d.failed {
		return api.ErrDown
	}
	if i < 0 || i >= d.n {
		return api.ErrRange
	}
	if len(b) > size {
		return api.ErrLong
	}
	if !d.would() {
		return api.ErrDown
	}
	d.cache = append(d.cache, written{i, string(b)})
	return api.OK
}

func (d *spelt) Flush() api.Errno {
	if d.failed || !d.would() {
		return api.ErrDown
	}
	for _, w := range d.cache {
		d.durable[w.i], d.torn[w.i] = w.b, false
	}
	d.cache = nil
	return api.OK
}

func (d *spelt) Read(i int) ([]byte, api.Errno) {
	if i < 0 || i >= d.n {
		return nil, api.ErrRange
	}
	for _, w := range slices.Backward(d.cache) {
		if w.i == i {
			return []byte(w.b), api.OK
		}
	}
	if d.torn[i] {
		return nil, api.ErrTorn
	}
	return []byte(d.durable[i]), api.OK
}

func (d *spelt) Len() int   { return d.n }
func (d *spelt) Down() bool { return d.failed }

func (d *spelt) Dirty() []int {
	var l []int
	for i := range d.n {
		if slices.ContainsFunc(d.cache, func(w written) bool { return w.i == i }) {
			l = append(l, i)
		}
	}
	return l
}

func (d *spelt) Arm(n int) {
	d.further = nil
	if n >= 0 {
		d.further = &n
	}
}

func (d *spelt) Crash(l []int) {
	for j, i := range d.Dirty() {
		fate := 0
		if j < len(l) {
			fate = l[j]
		}
		if fate == 1 {
			b, _ := d.Read(i)
			d.durable[i], d.torn[i] = string(b), false
		} else if fate != 0 {
			d.torn[i] = true
		}
	}
	d.cache, d.further, d.failed = nil, nil, false
}

// follow runs a script on a disk and on the one by the words, and holds all that can be seen against each other behind each call.
func follow(t *testing.T, n int, script []step) {
	t.Helper()
	d, w := fresh(t, n), words(n)
	for k, s := range script {
		got, want := s.do(d), s.do(w)
		if got != want || seen(d) != seen(w) {
			t.Fatalf("%d sectors: %s: %d, %s; by the words %d, %s", n, told(script[:k+1]), got, seen(d), want, seen(w))
		}
	}
}

// P4.1 to P4.7, held against a disk by the words: every script of four calls out of some.
func TestShortScriptsFollowTheWords(t *testing.T) {
	calls := []step{
		writes(0, []byte{1}), writes(1, []byte{2}), writes(1, nil), writes(2, []byte{3}), writes(0, make([]byte, 65)),
		flushes(), arms(-1), arms(0), arms(1), crashes(), crashes(1, 2), crashes(2, 1, 1),
	}
	k := len(calls)
	for at := range k * k * k * k {
		follow(t, 2, []step{calls[at%k], calls[at/k%k], calls[at/k/k%k], calls[at/k/k/k]})
	}
}

// one is any call for a disk of n sectors, most of them of a kind that is performed.
func one(r *rand.Rand, n int) step {
	switch r.IntN(12) {
	case 0:
		return writes(far[r.IntN(len(far))], row(r.Uint64(), r.IntN(80)))
	case 1:
		return writes(r.IntN(n+2)-1, row(r.Uint64(), 60+r.IntN(10)))
	case 2, 3:
		return flushes()
	case 4:
		return arms(r.IntN(8) - 1)
	case 5:
		return arms([]int{math.MinInt, -1, 0, 1, math.MaxInt}[r.IntN(5)])
	case 6, 7:
		l := make([]int, r.IntN(n+3))
		for j := range l {
			l[j] = fates[r.IntN(len(fates))]
		}
		return crashes(l...)
	}
	return writes(r.IntN(n), row(r.Uint64(), r.IntN(size+1)))
}

// P4.1 to P4.7, held against a disk by the words: long scripts of all sorts of calls.
func TestLongScriptsFollowTheWords(t *testing.T) {
	for seed := range uint64(1500) {
		r := rand.New(rand.NewPCG(seed, 16))
		n := 1 + r.IntN(6)
		var script []step
		for range 40 {
			script = append(script, one(r, n))
		}
		follow(t, n, script)
	}
}

// R4: the same calls have the same results, however the cache's map lies.
func TestSameCallsSameResults(t *testing.T) {
	r := rand.New(rand.NewPCG(17, 17))
	var script []step
	for range 400 {
		script = append(script, one(r, 60))
	}
	trace := func() string {
		d := fresh(t, 60)
		var s strings.Builder
		for _, c := range script {
			fmt.Fprint(&s, c.do(d), seen(d))
		}
		return s.String()
	}
	first := trace()
	for range 5 {
		if trace() != first {
			t.Fatal("another answer the second time")
		}
	}
}

// spare is b with memory behind it that nothing may write into.
func spare(b []byte) []byte {
	return append(bytes.Clone(b), bytes.Repeat([]byte{0xAA}, 70)...)[:len(b)]
}

// untouched reports whether b, with all of its memory, is still what spare made of want.
func untouched(b, want []byte) bool {
	return bytes.Equal(b, want) && bytes.Equal(b[len(b):len(b)+70], bytes.Repeat([]byte{0xAA}, 70))
}

// fill writes into all the memory that l reaches.
func fill[T byte | int](l []T, v T) {
	l = l[:cap(l)]
	for i := range l {
		l[i] = v
	}
}

// R3: Write neither changes nor keeps its bytes, whether it is performed or not.
func TestMemoryOfWrite(t *testing.T) {
	for _, n := range []int{0, 1, 63, 64, 65} {
		want := row(18, n)
		for _, settle := range []step{flushes(), crashes(1, 1)} {
			b := spare(want)
			d := fresh(t, 2)
			first, second := d.Write(0, b), d.Write(1, b)
			d.Write(2, b)
			settle.do(d)
			d.Arm(0)
			d.Write(0, b)
			d.Write(0, b)
			d.Crash(nil)
			if !untouched(b, want) {
				t.Errorf("Write of %d bytes changed its argument or the memory behind it", n)
			}
			if n > size {
				continue
			}
			if first != api.OK || second != api.OK {
				t.Fatalf("Write of %d bytes: %d, %d", n, first, second)
			}
			fill(b, 0x66)
			holds(t, "durable, the argument overwritten", d, 0, want...)
			holds(t, "durable, the argument overwritten", d, 1, want...)
			c := spare(row(19, n))
			d.Write(0, c)
			fill(c, 0x55)
			holds(t, "in the cache, the argument overwritten", d, 0, row(19, n)...)
			settle.do(d)
			holds(t, "durable, the argument overwritten before", d, 0, row(19, n)...)
		}
	}
}

// R3: what Read answers shares nothing with the cache, with what is durable, or with another answer.
func TestMemoryOfRead(t *testing.T) {
	for _, n := range []int{0, 1, 8, 63, 64} {
		want := row(20, n)
		for _, settle := range []step{arms(-1), flushes(), crashes(1)} {
			d := fresh(t, 1)
			write(t, d, 0, want...)
			early, _ := d.Read(0)
			settle.do(d)
			first, _ := d.Read(0)
			second, _ := d.Read(0)
			fill(first, 0x77)
			holds(t, "an answer overwritten", d, 0, want...)
			if !bytes.Equal(early, want) || !bytes.Equal(second, want) {
				t.Errorf("%s: Read of %d bytes: its answer shares memory with another one", settle.told, n)
			}
			fill(early, 0x66)
			holds(t, "an early answer overwritten", d, 0, want...)
			write(t, d, 0, row(21, size)...)
			flush(t, d)
			if !bytes.Equal(second, want) {
				t.Errorf("%s: Read of %d bytes: its answer hangs on a later Write", settle.told, n)
			}
		}
	}
}

// R3: Dirty's list is new each time, and a Crash leaves its own alone.
func TestMemoryOfLists(t *testing.T) {
	d := run(t, 4, writes(3, []byte{3}), writes(0, []byte{1}), writes(2, []byte{2}))
	first, second := d.Dirty(), d.Dirty()
	fill(first, 1)
	if !slices.Equal(second, []int{0, 2, 3}) {
		t.Errorf("Dirty's answer shares memory with another one: %v", second)
	}
	dirty(t, "an answer overwritten", d, 0, 2, 3)
	for _, want := range [][]int{nil, {1}, {2, 0, 1}, {1, 1, 1, 1, 1}} {
		d := run(t, 4, writes(3, []byte{3}), writes(0, []byte{1}), writes(2, []byte{2}))
		l := append(slices.Clone(want), 9, 9, 9, 9)[:len(want)]
		d.Crash(l)
		before := seen(d)
		if !slices.Equal(l, want) || !slices.Equal(l[len(l):len(l)+4], []int{9, 9, 9, 9}) {
			t.Errorf("Crash %v changed its argument or the memory behind it", want)
		}
		fill(l, 2)
		if seen(d) != before {
			t.Errorf("Crash %v: the disk hangs on the argument", want)
		}
		write(t, d, 1, 5)
		d.Crash(nil)
		if seen(d) != before {
			t.Errorf("Crash %v: it reaches the next one: %s, before it %s", want, seen(d), before)
		}
	}
}

// P4.5: what lies in the memory behind the list is not the list's.
func TestCrashDoesNotReadBehindItsArgument(t *testing.T) {
	l := []int{1, 1, 1}
	for n := range 4 {
		d := run(t, 3, writes(0, []byte{1}), writes(1, []byte{2}), writes(2, []byte{3}))
		d.Crash(l[:n])
		for i := range 3 {
			if i < n {
				holds(t, "durable", d, i, byte(i+1))
			} else {
				holds(t, "lost", d, i)
			}
		}
	}
}

// R3: two disks have nothing in common.
func TestTwoDisks(t *testing.T) {
	a, b := fresh(t, 2), fresh(t, 3)
	write(t, a, 0, 1)
	a.Arm(0)
	answers(t, "Flush of the one", a.Flush(), api.ErrDown)
	powered(t, "the other one", b, true)
	dirty(t, "the other one", b)
	flush(t, b)
	holds(t, "the other one", b, 0)
	b.Crash(nil)
	powered(t, "the first one", a, false)
	dirty(t, "the first one", a, 0)
}
