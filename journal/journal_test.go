package journal_test

import (
	"bytes"
	"encoding/binary"
	"fmt"
	"math"
	"math/big"
	"math/rand/v2"
	"slices"
	"strings"
	"testing"

	"glebe/api"
	"glebe/journal"
	"glebe/pack"
	"glebe/sector"
)

// The document's numbers, held against api's by TestLimits.
const (
	longest = 32768
	part    = 40
	size    = 64
	most    = 16384
	top     = 1 << 40
)

// far are numbers that are out of their place wherever they stand.
var far = []int{math.MinInt, math.MinInt + 1, -top, -1 << 32, -2, -1, top + 1, math.MaxInt - most, math.MaxInt - 1, math.MaxInt}

// epochs are all sorts of them, the least and the greatest among them.
var epochs = []int{1, 2, 7, 255, 256, 1 << 16, 1<<32 - 1, 1 << 32, top - 1, top}

// lengths are the edges of a record's length that are no more than an area's of a few sectors.
var lengths = []int{0, 1, 39, 40, 41, 79, 80, 81, 119, 120, 121}

// row is the same n bytes at every run: what a test finds must be found again.
func row(seed uint64, n int) []byte {
	r := rand.New(rand.NewPCG(seed, uint64(n)))
	b := make([]byte, n)
	for i := range b {
		b[i] = byte(r.Uint32())
	}
	return b
}

func disk(t *testing.T, n int) *sector.Disk {
	t.Helper()
	d, e := sector.New(n)
	if e != api.OK {
		t.Fatalf("a disk of %d sectors: %d", n, e)
	}
	return d
}

// lay writes a sector and flushes it.
func lay(t *testing.T, d *sector.Disk, i int, b []byte) {
	t.Helper()
	if e := d.Write(i, b); e != api.OK {
		t.Fatalf("Write of %d bytes to sector %d: %d", len(b), i, e)
	}
	if e := d.Flush(); e != api.OK {
		t.Fatalf("Flush: %d", e)
	}
}

// tear tears a sector.
func tear(t *testing.T, d *sector.Disk, i int) {
	t.Helper()
	if e := d.Write(i, nil); e != api.OK {
		t.Fatalf("Write to sector %d: %d", i, e)
	}
	d.Crash([]int{2})
}

// fail makes the power fail; what is in the cache stays there.
func fail(d *sector.Disk) {
	d.Arm(0)
	d.Flush()
}

func begin(t *testing.T, d *sector.Disk, from, n, epoch int) *journal.Journal {
	t.Helper()
	j, e := journal.New(d, from, n, epoch)
	if j == nil || e != api.OK {
		t.Fatalf("New from %d, %d sectors, epoch %d: %v, %d", from, n, epoch, j, e)
	}
	return j
}

// add appends records, each of which must be appended.
func add(t *testing.T, j *journal.Journal, records ...[]byte) {
	t.Helper()
	for _, p := range records {
		if e := j.Append(p); e != api.OK {
			t.Fatalf("Append of %d bytes, room for %d sectors: %d", len(p), j.Room(), e)
		}
	}
}

// answers holds the error of a call against the one that is asked for.
func answers(t *testing.T, what string, got, want api.Errno) {
	t.Helper()
	if got != want {
		t.Errorf("%s: %d, want %d", what, got, want)
	}
}

func counts(t *testing.T, what string, j *journal.Journal, room, count int) {
	t.Helper()
	if j.Room() != room || j.Count() != count {
		t.Errorf("%s: Room %d, Count %d; want %d, %d", what, j.Room(), j.Count(), room, count)
	}
}

func same(a, b [][]byte) bool { return slices.EqualFunc(a, b, bytes.Equal) }

// short tells records by their lengths and their first bytes.
func short(l [][]byte) string {
	var s strings.Builder
	for _, p := range l {
		fmt.Fprintf(&s, "%d:%X ", len(p), p[:min(len(p), 4)])
	}
	return s.String()
}

// holds holds Scan against the records that are asked for.
func holds(t *testing.T, what string, d *sector.Disk, from, n, epoch int, want ...[]byte) {
	t.Helper()
	if l, e := journal.Scan(d, from, n, epoch); !same(l, want) || e != api.OK {
		t.Errorf("%s: Scan from %d, %d sectors, epoch %d: %s, %d; want %s, OK", what, from, n, epoch, short(l), e, short(want))
	}
}

// inAnyPower holds Scan against the records that are asked for as the power is, without it, and behind a crash.
func inAnyPower(t *testing.T, what string, d *sector.Disk, from, n, epoch int, want ...[]byte) {
	t.Helper()
	holds(t, what, d, from, n, epoch, want...)
	fail(d)
	holds(t, what+", without power", d, from, n, epoch, want...)
	if len(d.Dirty()) == 0 {
		d.Crash(nil)
		holds(t, what+", after a crash", d, from, n, epoch, want...)
	}
}

// head is the bytes ahead of a piece, by the chapter's words.
func head(epoch, number, mark int) []byte {
	var b []byte
	for _, v := range []int{epoch, number, mark} {
		b = binary.BigEndian.AppendUint64(b, uint64(v))
	}
	return b
}

// laid is the sectors of a record, by the chapter's words.
func laid(epoch, number int, p []byte) [][]byte {
	var l [][]byte
	for at := 0; at == 0 || at < len(p); at += part {
		end, mark := min(at+part, len(p)), 2*(at/part)
		if end == len(p) {
			mark++
		}
		l = append(l, append(head(epoch, number, mark), p[at:end]...))
	}
	return l
}

// all is the sectors of several records, one after the other.
func all(epoch int, records ...[]byte) [][]byte {
	var l [][]byte
	for k, p := range records {
		l = append(l, laid(epoch, k+1, p)...)
	}
	return l
}

// spelt is the records of an epoch in an area, by the chapter's words: sectors are a record's if its sectors are these very ones.
func spelt(d *sector.Disk, from, n, epoch int) [][]byte {
	var l [][]byte
	for at := from; ; {
		p, k := record(d, at, from+n, epoch, len(l)+1)
		if k == 0 {
			return l
		}
		l, at = append(l, p), at+k
	}
}

// record is the record of that number that starts at a sector, and its number of sectors: 0 if there is none.
func record(d *sector.Disk, at, end, epoch, number int) ([]byte, int) {
	var p []byte
	var found [][]byte
	for i := at; i < end && len(p) <= longest; i++ {
		b, e := d.Read(i)
		if e != api.OK || len(b) < size-part {
			break
		}
		p, found = append(p, b[size-part:]...), append(found, b)
		if len(p) <= longest && same(laid(epoch, number, p), found) {
			return p, len(found)
		}
	}
	return nil, 0
}

// sectors is what Read answers for each sector.
func sectors(d *sector.Disk) string {
	var s strings.Builder
	for i := range d.Len() {
		b, e := d.Read(i)
		fmt.Fprintf(&s, "%d:%X/%d ", i, b, e)
	}
	return s.String()
}

// seen is what can be read from a disk without changing it.
func seen(d *sector.Disk) string {
	return fmt.Sprint(d.Len(), " ", d.Down(), d.Dirty(), sectors(d))
}

// hidden is what only further calls show: the operations that are left, up to twenty, and the durable states beneath the cache.
func hidden(d *sector.Disk) string {
	n := 0
	for n < 20 && d.Write(0, nil) == api.OK {
		n++
	}
	d.Crash(nil)
	return fmt.Sprint(n, " ", sectors(d))
}

// states make disks of eight sectors in all sorts of states; records of the epoch 7 are in the area of five sectors from the third one on.
func states(t *testing.T) map[string]func() *sector.Disk {
	empty := func() *sector.Disk { return disk(t, 8) }
	used := func() *sector.Disk {
		d := empty()
		add(t, begin(t, d, 2, 5, 7), row(1, 2), nil, row(1, 50))
		lay(t, d, 0, row(2, size))
		tear(t, d, 1)
		return d
	}
	dirty := func() *sector.Disk {
		d := used()
		d.Write(3, row(3, 9))
		d.Write(7, nil)
		return d
	}
	down := func() *sector.Disk {
		d := dirty()
		fail(d)
		return d
	}
	armed := func(n int) func() *sector.Disk {
		return func() *sector.Disk {
			d := dirty()
			d.Arm(n)
			return d
		}
	}
	return map[string]func() *sector.Disk{
		"empty": empty, "used": used, "dirty": dirty, "down": down,
		"armed for none": armed(0), "armed for one": armed(1), "armed for five": armed(5),
	}
}

func TestLimits(t *testing.T) {
	if api.MaxRecord != longest || api.PieceSize != part || api.SectorSize != size || api.MaxSectors != most || api.MaxNumber != top {
		t.Errorf("api has other limits than the document: %d, %d, %d, %d, %d", api.MaxRecord, api.PieceSize, api.SectorSize, api.MaxSectors, api.MaxNumber)
	}
}

// P7.1 to P7.4, the chapter's table.
func TestExamples(t *testing.T) {
	d := disk(t, 8)
	j := begin(t, d, 2, 5, 7)
	two, many := row(4, 2), row(4, 120)
	answers(t, "Append of 2 bytes", j.Append(two), api.OK)
	answers(t, "Append of none", j.Append(nil), api.OK)
	counts(t, "two records", j, 3, 2)
	want := append(pack.Int(pack.Int(pack.Int(nil, 7), 1), 1), two...)
	if b, e := d.Read(2); !bytes.Equal(b, want) || e != api.OK {
		t.Errorf("sector 2: %X, %d; want %X, OK", b, e, want)
	}
	answers(t, "Append of 121 bytes", j.Append(row(4, 121)), api.ErrFull)
	answers(t, "Append of 120 bytes", j.Append(many), api.OK)
	answers(t, "Append of none to a full area", j.Append(nil), api.ErrFull)
	counts(t, "a full area", j, 0, 3)
	holds(t, "the three", d, 2, 5, 7, two, nil, many)
	holds(t, "another epoch", d, 2, 5, 8)
	holds(t, "the first two", d, 2, 4, 7, two, nil)
	holds(t, "from another sector on", d, 3, 4, 7)
	for _, x := range [][3]int{{4, 5, 7}, {0, 8, 0}, {-1, 2, 7}, {0, 0, 7}} {
		if j, e := journal.New(d, x[0], x[1], x[2]); j != nil || e != api.ErrRange {
			t.Errorf("New %v: %v, %d; want none, ErrRange", x, j, e)
		}
	}
}

// area reports whether the disk has the area and the epoch is one, in numbers of any size.
func area(d *sector.Disk, from, n, epoch int) bool {
	sum := new(big.Int).Add(big.NewInt(int64(from)), big.NewInt(int64(n)))
	return from >= 0 && n >= 1 && sum.Cmp(big.NewInt(int64(d.Len()))) <= 0 && epoch >= 1 && epoch <= top
}

// P7.1, P7.2 and R2: every from, number of sectors and epoch out of the edges.
func TestAreasAndEpochs(t *testing.T) {
	for _, whole := range []int{1, 2, 8, most} {
		d := disk(t, whole)
		lay(t, d, whole-1, laid(7, 1, []byte("a"))[0])
		places := append([]int{0, 1, 2, whole/2 - 1, whole / 2, whole - 2, whole - 1, whole, whole + 1, math.MaxInt - whole, math.MaxInt - whole + 1}, far...)
		for _, from := range places {
			for _, n := range places {
				for _, epoch := range append(append([]int{0}, epochs...), far...) {
					j, e := journal.New(d, from, n, epoch)
					l, f := journal.Scan(d, from, n, epoch)
					if !area(d, from, n, epoch) {
						if j != nil || e != api.ErrRange || l != nil || f != api.ErrRange {
							t.Errorf("%d sectors, from %d, n %d, epoch %d: New %v, %d, Scan %v, %d; want none, ErrRange", whole, from, n, epoch, j, e, l, f)
						}
						continue
					}
					var want [][]byte
					if from == whole-1 && epoch == 7 {
						want = [][]byte{[]byte("a")}
					}
					if j == nil || e != api.OK || !same(l, want) || f != api.OK {
						t.Errorf("%d sectors, from %d, n %d, epoch %d: New %v, %d, Scan %v, %d; want OK and %v", whole, from, n, epoch, j, e, l, f, want)
						continue
					}
					counts(t, "new", j, n, 0)
				}
			}
		}
	}
}

// P7.1, P7.2 and R2: New and Scan, refused or not, change nothing of the disk, whatever state it is in.
func TestNewAndScanChangeNothing(t *testing.T) {
	for name, fresh := range states(t) {
		untouched := fresh()
		before, beneath := seen(untouched), hidden(untouched)
		for _, x := range [][3]int{{2, 5, 7}, {2, 5, 8}, {0, 8, 1}, {7, 1, top}, {1, 2, 7}, {4, 5, 7}, {0, 8, 0}, {-1, 2, 7}, {0, 0, 7}, {8, 1, 7}, {1, math.MaxInt, 7}, {0, 8, top + 1}} {
			d := fresh()
			for range 2 {
				journal.New(d, x[0], x[1], x[2])
				journal.Scan(d, x[0], x[1], x[2])
			}
			if after := seen(d); after != before {
				t.Errorf("%s: New and Scan %v: %s, before it %s", name, x, after, before)
			}
			if after := hidden(d); after != beneath {
				t.Errorf("%s: New and Scan %v: hidden %s, before it %s", name, x, after, beneath)
			}
		}
	}
}

// P7.1: a new journal has no records, whatever its area holds, and its first record is the number 1 in the first sector.
func TestNewHasNoRecords(t *testing.T) {
	for name, fresh := range states(t) {
		for _, epoch := range []int{6, 7, 8} {
			d := fresh()
			j := begin(t, d, 2, 5, epoch)
			counts(t, name, j, 5, 0)
			d.Crash(nil)
			p := row(5, 45)
			add(t, j, p)
			counts(t, name+", a record", j, 3, 1)
			for k, want := range laid(epoch, 1, p) {
				if b, e := d.Read(2 + k); !bytes.Equal(b, want) || e != api.OK {
					t.Errorf("%s: sector %d: %X, %d; want %X, OK", name, 2+k, b, e, want)
				}
			}
		}
	}
}

// edges are lengths of records, with their numbers of sectors.
func edges() map[int]int {
	m := map[int]int{0: 1, 1: 1, 39: 1, 40: 1, 41: 2, 79: 2, 80: 2, 81: 3, 119: 3, 120: 3, 121: 4, 32759: 819, 32760: 819, 32761: 820, 32767: 820, 32768: 820}
	for n := 1; n <= 320; n++ {
		m[n] = (n + 39) / 40
	}
	for _, k := range []int{9, 16, 25, 100, 127, 128, 129, 255, 256, 257, 511, 512, 513, 700} {
		m[40*k-1], m[40*k], m[40*k+1] = k, k, k+1
	}
	return m
}

// P7.2 to P7.4: a record of each length, in an area that has just as many sectors as it: these very sectors, and none beside them.
func TestSectorsOfEachLength(t *testing.T) {
	for n, k := range edges() {
		for i, p := range [][]byte{make([]byte, n), bytes.Repeat([]byte{0xFF}, n), row(6, n)} {
			d := disk(t, k+2)
			beside := row(7, size)
			lay(t, d, 0, beside)
			lay(t, d, k+1, beside)
			epoch := epochs[(n+i)%len(epochs)]
			j := begin(t, d, 1, k, epoch)
			counts(t, "new", j, k, 0)
			answers(t, fmt.Sprintf("Append of %d bytes to %d sectors", n, k), j.Append(p), api.OK)
			counts(t, fmt.Sprintf("a record of %d bytes", n), j, 0, 1)
			want := append([][]byte{beside}, laid(epoch, 1, p)...)
			want = append(want, beside)
			for s := range k + 2 {
				if b, e := d.Read(s); !bytes.Equal(b, want[s]) || e != api.OK {
					t.Fatalf("a record of %d bytes, sector %d: %X, %d; want %X, OK", n, s, b, e, want[s])
				}
			}
			if l := d.Dirty(); len(l) != 0 {
				t.Errorf("a record of %d bytes: %d sectors are dirty", n, len(l))
			}
			inAnyPower(t, fmt.Sprintf("a record of %d bytes", n), d, 1, k, epoch, p)
		}
	}
}

// P7.3 and P7.4: one sector fewer than the record has, just as many, and one more.
func TestRoomForEachLength(t *testing.T) {
	for n, k := range edges() {
		for _, early := range [][][]byte{nil, {nil}, {row(8, 41), nil}} {
			taken := len(all(1, early...))
			for _, room := range []int{k - 1, k, k + 1} {
				if taken+room < 1 {
					continue
				}
				d := disk(t, taken+room+1)
				j := begin(t, d, 0, taken+room, 3)
				add(t, j, early...)
				what := fmt.Sprintf("Append of %d bytes, room for %d sectors", n, room)
				if room < k {
					before := seen(d)
					answers(t, what, j.Append(row(9, n)), api.ErrFull)
					counts(t, what, j, room, len(early))
					holds(t, what, d, 0, taken+room, 3, early...)
					if seen(d) != before {
						t.Errorf("%s: the disk has changed", what)
					}
					continue
				}
				answers(t, what, j.Append(row(9, n)), api.OK)
				counts(t, what, j, room-k, len(early)+1)
				holds(t, what, d, 0, taken+room, 3, append(slices.Clone(early), row(9, n))...)
			}
		}
	}
}

// P7.3 and P7.4: records one after the other, with the next numbers, in areas at both ends of the disk, and epochs of all sorts.
func TestRecordsOneAfterTheOther(t *testing.T) {
	records := [][]byte{nil, row(10, 40), row(10, 121), row(10, 1), nil, row(10, 80), row(10, 3*part+1)}
	for _, epoch := range epochs {
		for _, from := range []int{0, 1, 3} {
			n := len(all(epoch, records...))
			d := disk(t, from+n)
			j := begin(t, d, from, n, epoch)
			for k := range records {
				add(t, j, records[k])
				want := all(epoch, records[:k+1]...)
				counts(t, "one more", j, n-len(want), k+1)
				for s := range n {
					var whole []byte
					if s < len(want) {
						whole = want[s]
					}
					if b, e := d.Read(from + s); !bytes.Equal(b, whole) || e != api.OK {
						t.Fatalf("epoch %d, %d records, sector %d: %X, %d; want %X, OK", epoch, k+1, s, b, e, whole)
					}
				}
				holds(t, "one more", d, from, n, epoch, records[:k+1]...)
			}
			before := seen(d)
			for _, p := range [][]byte{nil, {1}, row(11, 40), row(11, 41), row(11, longest)} {
				answers(t, "Append to a full area", j.Append(p), api.ErrFull)
			}
			counts(t, "a full area", j, 0, len(records))
			if seen(d) != before {
				t.Errorf("epoch %d: a full area has changed", epoch)
			}
		}
	}
}

// P7.2 to P7.4: the greatest area, with a record in each sector, and with records of the greatest length.
func TestGreatestArea(t *testing.T) {
	d := disk(t, most)
	j := begin(t, d, 0, most, top)
	var want [][]byte
	for k := range most {
		p := []byte{byte(k), byte(k >> 8)}
		add(t, j, p)
		want = append(want, p)
	}
	counts(t, "all sectors", j, 0, most)
	answers(t, "one more", j.Append(nil), api.ErrFull)
	holds(t, "all sectors", d, 0, most, top, want...)
	holds(t, "all but one", d, 0, most-1, top, want[:most-1]...)

	j, want = begin(t, d, 0, most, 5), nil
	for k := range most / 820 {
		p := row(uint64(k), longest)
		add(t, j, p)
		want = append(want, p)
	}
	counts(t, "as many as there may be", j, 804, 19)
	answers(t, "one more", j.Append(row(12, longest)), api.ErrFull)
	answers(t, "one sector more", j.Append(row(12, 804*part+1)), api.ErrFull)
	add(t, j, row(12, 804*part))
	counts(t, "no sector left", j, 0, 20)
	holds(t, "all sectors", d, 0, most, 5, append(want, row(12, 804*part))...)
	holds(t, "all but one", d, 0, most-1, 5, want...)
	holds(t, "the one before it", d, 0, most, top)
}

// P7.3 and R2: the first error that applies, and nothing has changed, neither the disk nor the journal.
func TestFirstErrorCounts(t *testing.T) {
	powers := map[string]func(d *sector.Disk){
		"with power":        func(d *sector.Disk) {},
		"armed for none":    func(d *sector.Disk) { d.Arm(0) },
		"armed for one":     func(d *sector.Disk) { d.Arm(1) },
		"armed for five":    func(d *sector.Disk) { d.Arm(5) },
		"without power":     fail,
		"with a dirty one":  func(d *sector.Disk) { d.Write(9, []byte{9}) },
		"dirty and no more": func(d *sector.Disk) { d.Write(9, []byte{9}); fail(d) },
	}
	for name, power := range powers {
		for room := range 4 {
			fresh := func() (*sector.Disk, *journal.Journal) {
				d := disk(t, 10)
				j := begin(t, d, 1, room+1, 4)
				add(t, j, []byte("one"))
				power(d)
				return d, j
			}
			untouched, _ := fresh()
			before, beneath := seen(untouched), hidden(untouched)
			for _, n := range []int{0, 1, 40, 41, 80, 81, 120, 121, 160, 32767, longest, longest + 1, longest + 2, longest + part, 65536 + 1, 1 << 20} {
				want := api.ErrLong
				if n <= longest && (n+39)/40 <= room && (n > 0 || room > 0) {
					continue
				}
				if n <= longest {
					want = api.ErrFull
				}
				d, j := fresh()
				what := fmt.Sprintf("%s, room for %d: Append of %d bytes", name, room, n)
				for range 2 {
					answers(t, what, j.Append(row(13, n)), want)
				}
				counts(t, what, j, room, 1)
				holds(t, what, d, 1, room+1, 4, []byte("one"))
				if after := seen(d); after != before {
					t.Errorf("%s: %s, before it %s", what, after, before)
				}
				if after := hidden(d); after != beneath {
					t.Errorf("%s: hidden %s, before it %s", what, after, beneath)
				}
			}
		}
	}
}

// P7.3: what a refused Append was given is nowhere, and the next record follows the last one.
func TestAppendAfterRefusedOnes(t *testing.T) {
	d := disk(t, 6)
	j := begin(t, d, 1, 4, 4)
	add(t, j, []byte("one"))
	answers(t, "too long", j.Append(row(14, longest+1)), api.ErrLong)
	add(t, j, []byte("two"))
	answers(t, "no room", j.Append(row(14, 81)), api.ErrFull)
	counts(t, "two records", j, 2, 2)
	add(t, j, row(14, 80))
	answers(t, "full", j.Append(nil), api.ErrFull)
	answers(t, "too long and full", j.Append(row(14, longest+1)), api.ErrLong)
	counts(t, "three records", j, 0, 3)
	holds(t, "three records", d, 1, 4, 4, []byte("one"), []byte("two"), row(14, 80))
}

// P7.3: without power an Append that has room is answered with ErrDown, and nothing has changed.
func TestAppendWithoutPower(t *testing.T) {
	for _, early := range [][][]byte{nil, {[]byte("one")}, {nil, row(15, 41)}} {
		for _, n := range lengths {
			d := disk(t, 9)
			j := begin(t, d, 1, 8, 4)
			add(t, j, early...)
			d.Write(0, []byte("dirty"))
			fail(d)
			before, room := seen(d), j.Room()
			for range 2 {
				answers(t, fmt.Sprintf("without power: Append of %d bytes", n), j.Append(row(16, n)), api.ErrDown)
				counts(t, "without power", j, room, len(early))
			}
			if after := seen(d); after != before {
				t.Errorf("without power: Append of %d bytes: %s, before it %s", n, after, before)
			}
			holds(t, "without power", d, 1, 8, 4, early...)
			d.Crash([]int{1})
			inAnyPower(t, "behind it", d, 1, 8, 4, early...)
		}
	}
}

// fates are all lists of so many fates of a sector, torn in more than one way.
func fates(k int) [][]int {
	l := [][]int{nil}
	for range k {
		var longer [][]int
		for _, x := range l {
			for _, fate := range []int{0, 1, 2} {
				if fate == 2 && len(x)%2 == 1 {
					fate = -1
				}
				longer = append(longer, append(slices.Clone(x), fate))
			}
		}
		l = longer
	}
	return l
}

// kept reports whether all of these sectors became durable.
func kept(l []int) bool {
	return !slices.ContainsFunc(l, func(fate int) bool { return fate != 1 })
}

// grounds make areas of nine sectors from the second one on, without anything of the epoch 6.
func grounds(t *testing.T) map[string]func() *sector.Disk {
	return map[string]func() *sector.Disk{
		"empty": func() *sector.Disk { return disk(t, 11) },
		"of an earlier epoch": func() *sector.Disk {
			d := disk(t, 11)
			add(t, begin(t, d, 1, 9, 5), []byte("one"), row(17, 200), nil, row(17, 41))
			return d
		},
		"torn": func() *sector.Disk {
			d := disk(t, 11)
			for i := range 9 {
				tear(t, d, 1+i)
			}
			return d
		},
	}
}

// P7.3 and P7.5: the power fails at each write and each flush, and each sector that was not flushed has each fate.
func TestPowerFailsAtEachOperation(t *testing.T) {
	for name, ground := range grounds(t) {
		for _, early := range [][][]byte{nil, {[]byte("one")}, {row(18, 41), nil}} {
			for _, n := range []int{0, 1, 40, 41, 80, 81, 120, 121, 160} {
				p, taken := row(19, n), len(all(1, early...))
				k := len(laid(1, 1, p))
				for left := range k + 2 {
					for _, l := range fates(min(left, k)) {
						d := ground()
						j := begin(t, d, 1, 9, 6)
						add(t, j, early...)
						d.Arm(left)
						e := j.Append(p)
						what := fmt.Sprintf("%s, %d records, Append of %d bytes with %d operations left, fates %v", name, len(early), n, left, l)
						want, room := early, 9-taken
						if left == k+1 {
							answers(t, what, e, api.OK)
							want, room = append(slices.Clone(early), p), room-k
							counts(t, what, j, room, len(want))
							if d.Down() {
								t.Errorf("%s: more operations than these", what)
							}
							answers(t, what+", one operation more", d.Flush(), api.ErrDown)
							inAnyPower(t, what, d, 1, 9, 6, want...)
							break
						}
						answers(t, what, e, api.ErrDown)
						counts(t, what, j, room, len(early))
						written := d.Dirty()
						for i := range max(left, len(written)) {
							if i >= len(written) || i >= left || written[i] != 1+taken+i {
								t.Fatalf("%s: written are %v", what, written)
							}
						}
						if left == k {
							want = append(slices.Clone(early), p)
						}
						holds(t, what+", without power", d, 1, 9, 6, want...)
						d.Crash(l)
						if !kept(l) {
							want = early
						}
						inAnyPower(t, what, d, 1, 9, 6, want...)
					}
				}
			}
		}
	}
}

// P7.5: the longest record, interrupted at many places, with one sector lost or torn, or all of them durable.
func TestPowerFailsInTheLongestRecord(t *testing.T) {
	p := row(20, longest)
	for _, left := range []int{0, 1, 2, 409, 818, 819, 820} {
		for _, spoilt := range []int{-1, 0, 1, 410, 817, 818, 819} {
			for _, fate := range []int{0, 2} {
				d := disk(t, 830)
				j := begin(t, d, 3, 825, 2)
				add(t, j, []byte("one"))
				d.Arm(left)
				answers(t, "Append of the longest record", j.Append(p), api.ErrDown)
				counts(t, "interrupted", j, 824, 1)
				l := slices.Repeat([]int{1}, left)
				if spoilt >= 0 && spoilt < left {
					l[spoilt] = fate
				}
				d.Crash(l)
				want := [][]byte{[]byte("one")}
				if left == 820 && kept(l) {
					want = append(want, p)
				}
				holds(t, fmt.Sprintf("%d operations, sector %d has the fate %d", left, spoilt, fate), d, 3, 825, 2, want...)
			}
		}
	}
}

// foreign are bytes that are not those of the third sector of the example of TestScanEnds: the second piece of its second record.
func foreign() map[string][]byte {
	piece := row(21, part)
	sector := func(numbers []byte, n int) []byte { return append(slices.Clone(numbers), piece[:n]...) }
	right := head(7, 2, 2)
	little := make([]byte, 24)
	for i, v := range []uint64{7, 2, 2} {
		binary.LittleEndian.PutUint64(little[8*i:], v)
	}
	m := map[string][]byte{
		"none": nil, "noughts": make([]byte, size), "ones": bytes.Repeat([]byte{0xFF}, size),
		"little end first": sector(little, part), "numbers of four bytes": sector([]byte{0, 0, 0, 7, 0, 0, 0, 2, 0, 0, 0, 2}, part),
		"numbers of a byte": sector([]byte{7, 2, 2}, part), "another order": sector(head(2, 7, 2), part), "the mark ahead": sector(head(2, 2, 7), part),
		"its piece alone": piece, "a byte ahead": append([]byte{0}, sector(right, 39)...),
		"the head behind the piece": append(slices.Clone(piece), right...), "the last one's head behind the piece": append(slices.Clone(piece), head(7, 2, 3)...),
		"a byte ahead of the last one's head": append([]byte{0}, sector(head(7, 2, 3), 39)...),
	}
	for _, epoch := range append([]int{0, 1, 6, 8, 7 + 256, 7 + 1<<32, 7 - 1<<40, -7, top}, far...) {
		m[fmt.Sprint("the epoch ", epoch)] = sector(head(epoch, 2, 2), part)
	}
	for _, number := range append([]int{0, 1, 3, 4, 2 + 256, 2 + 1<<32, -2}, far...) {
		m[fmt.Sprint("the number ", number)] = sector(head(7, number, 2), part)
	}
	for _, mark := range append([]int{0, 1, 4, 5, 6, 2 + 256, 2 + 1<<32, 3 + 256, 3 - 1<<62, -2, -3}, far...) {
		m[fmt.Sprint("the mark ", mark)] = sector(head(7, 2, mark), part)
	}
	for n := range 24 {
		m[fmt.Sprintf("%d bytes of the numbers", n)] = right[:n]
	}
	for n := range part {
		m[fmt.Sprintf("a middle piece of %d bytes", n)] = sector(right, n)
	}
	m["a last piece without bytes"] = head(7, 2, 3)
	for at := range 24 {
		for bit := range 8 {
			if at == 23 && bit == 0 { // a last piece, which ends its record
				continue
			}
			b := sector(right, part)
			b[at] ^= 1 << bit
			m[fmt.Sprintf("byte %d, bit %d", at, bit)] = b
		}
	}
	return m
}

// P7.2: a sector that is not the expected one ends the records, durable or in the cache, with power and without it.
func TestScanEnds(t *testing.T) {
	one, two, three := []byte("one"), row(22, 130), []byte("three")
	fresh := func() *sector.Disk {
		d := disk(t, 9)
		add(t, begin(t, d, 1, 7, 7), one, two, three)
		return d
	}
	holds(t, "as it was", fresh(), 1, 7, 7, one, two, three)
	for name, b := range foreign() {
		d := fresh()
		if e := d.Write(3, b); e != api.OK {
			t.Fatalf("%s: Write of %d bytes: %d", name, len(b), e)
		}
		holds(t, name+", in the cache", d, 1, 7, 7, one)
		lay(t, d, 3, b)
		inAnyPower(t, name, d, 1, 7, 7, one)
		if l := spelt(d, 1, 7, 7); len(l) != 1 {
			t.Errorf("%s: by the words there are %s", name, short(l))
		}
	}
}

// P7.2: a torn sector ends the records, wherever it is.
func TestScanOverATornSector(t *testing.T) {
	records := [][]byte{[]byte("one"), row(23, 130), nil, row(23, 80)}
	from := []int{0, 1, 5, 6, 8}
	for torn := range 9 {
		d := disk(t, 10)
		add(t, begin(t, d, 1, 9, 7), records...)
		tear(t, d, 1+torn)
		k := 0
		for torn < 8 && torn >= from[k+1] {
			k++
		}
		if torn < 8 {
			inAnyPower(t, fmt.Sprintf("sector %d is torn", torn), d, 1, 9, 7, records[:k]...)
			continue
		}
		inAnyPower(t, "the sector behind them is torn", d, 1, 9, 7, records...)
	}
}

// P7.2: the sector of another record at each place, of the same and of another journal, ends the records.
func TestScanOverMixedSectors(t *testing.T) {
	records := [][]byte{[]byte("one"), row(24, 130), nil, row(24, 80)}
	mine := all(7, records...)
	others := append(slices.Clone(mine), all(8, records...)...)
	others = append(others, all(7, row(24, 80), []byte("one"), row(24, 130))...)
	for at := range mine {
		for _, b := range others {
			d := disk(t, 10)
			add(t, begin(t, d, 1, 9, 7), records...)
			lay(t, d, 1+at, b)
			want := spelt(d, 1, 9, 7)
			if bytes.Equal(b, mine[at]) {
				want = records
			}
			inAnyPower(t, fmt.Sprintf("sector %d is %X", at, b), d, 1, 9, 7, want...)
		}
	}
}

// P7.2: a last piece of each length ends its record; a first one that is the last may be empty.
func TestScanOfEachLastPiece(t *testing.T) {
	for k := range 4 {
		for n := range part + 1 {
			d := disk(t, 6)
			p := row(25, k*part+n)
			for i := range k {
				lay(t, d, i, append(head(7, 1, 2*i), p[i*part:(i+1)*part]...))
			}
			lay(t, d, k, append(head(7, 1, 2*k+1), p[k*part:]...))
			lay(t, d, k+1, append(head(7, 2, 1), 9))
			if n == 0 && k > 0 {
				inAnyPower(t, fmt.Sprintf("an empty last piece behind %d", k), d, 0, 6, 7)
				continue
			}
			inAnyPower(t, fmt.Sprintf("a last piece of %d bytes behind %d", n, k), d, 0, 6, 7, p, []byte{9})
		}
	}
}

// P7.2: a piece of more bytes than there may be has no sector.
func TestNoSectorForALongerPiece(t *testing.T) {
	d := disk(t, 2)
	for _, mark := range []int{0, 1} {
		for n := part + 1; n < part+10; n++ {
			answers(t, "Write of a longer piece", d.Write(0, append(head(7, 1, mark), row(26, n)...)), api.ErrLong)
			inAnyPower(t, "refused", d, 0, 2, 7)
		}
	}
}

// P7.2: a record without its last piece is none, be it followed by nothing, by another record, or by its own beginning.
func TestScanWithoutTheLastPiece(t *testing.T) {
	one := []byte("one")
	for _, n := range []int{41, 80, 81, 120, 121, 160} {
		whole := laid(7, 2, row(27, n))
		behind := map[string][][]byte{
			"nothing": nil, "the next record": laid(7, 3, one), "its number once more": laid(7, 2, one), "its beginning": whole[:1],
			"the first record": laid(7, 1, one), "another epoch": laid(8, 2, one),
		}
		for k := 1; k < len(whole); k++ {
			for name, more := range behind {
				d := disk(t, 12)
				lay(t, d, 0, laid(7, 1, one)[0])
				for i, b := range append(slices.Clone(whole[:k]), more...) {
					lay(t, d, 1+i, b)
				}
				inAnyPower(t, fmt.Sprintf("%d of %d pieces, then %s", k, len(whole), name), d, 0, 12, 7, one)
			}
		}
	}
}

// P7.2: a record of as many bytes as there may be, of one fewer, of more, and without an end; another record is behind each.
func TestScanOfTheLongestRecord(t *testing.T) {
	for _, n := range []int{longest - 1, longest, longest + 1, longest + 2, longest + 31, longest + 32, longest + 33, longest + part, 2 * longest} {
		p := row(28, n)
		d := disk(t, 1800)
		for i, b := range all(7, []byte("one"), p, []byte("three")) {
			if e := d.Write(2+i, b); e != api.OK {
				t.Fatal(e)
			}
		}
		d.Flush()
		want := [][]byte{[]byte("one")}
		if n <= longest {
			want = append(want, p, []byte("three"))
		}
		inAnyPower(t, fmt.Sprintf("a record of %d bytes", n), d, 2, 1798, 7, want...)
	}
	d := disk(t, most)
	for i := range most {
		d.Write(i, append(head(7, 1, 2*i), row(29, part)...))
	}
	d.Flush()
	inAnyPower(t, "a record without an end", d, 0, most, 7)
}

// P7.2: a record that goes past the area's end is none, whatever is behind the area.
func TestScanToTheAreasEnd(t *testing.T) {
	records := [][]byte{[]byte("one"), row(30, 130), nil, row(30, 41), row(30, 40)}
	ends := []int{1, 5, 6, 8, 9}
	for from := range 3 {
		d := disk(t, from+9)
		add(t, begin(t, d, from, 9, 7), records...)
		for n := 1; n <= 9; n++ {
			k := 0
			for k < len(ends) && ends[k] <= n {
				k++
			}
			holds(t, fmt.Sprintf("%d sectors of 9", n), d, from, n, 7, records[:k]...)
			fail(d)
			holds(t, fmt.Sprintf("%d sectors of 9, without power", n), d, from, n, 7, records[:k]...)
			d.Crash(nil)
		}
		for at := 1; at < 9; at++ {
			holds(t, "not from the first sector on", d, from+at, 9-at, 7)
		}
	}
}

// palette is sectors for an area of the epoch 7: right ones and wrong ones; a nil one is torn.
func palette() [][]byte {
	piece := row(31, part)
	sector := func(epoch, number, mark, n int) []byte { return append(head(epoch, number, mark), piece[:n]...) }
	return [][]byte{
		nil, {}, sector(7, 1, 1, 0), sector(7, 1, 0, part), sector(7, 1, 2, part), sector(7, 1, 3, 1), sector(7, 1, 3, 0), sector(7, 1, 5, part),
		sector(7, 1, 0, part-1), sector(7, 2, 1, 9), sector(7, 2, 0, part), sector(7, 2, 3, part), sector(7, 3, 1, part), sector(8, 1, 1, 3),
	}
}

// P7.2, held against the chapter's words: every area of four sectors out of the palette, with one more behind it.
func TestScanFollowsTheWords(t *testing.T) {
	l := palette()
	k := len(l)
	for at := range k * k * k * k {
		d := disk(t, 6)
		var torn []int
		for i, x := range []int{at % k, at / k % k, at / k / k % k, at / k / k / k, 5} {
			d.Write(1+i, l[x])
			fate := 1
			if l[x] == nil {
				fate = 2
			}
			torn = append(torn, fate)
		}
		d.Crash(torn)
		for _, n := range []int{4, 5} {
			got, e := journal.Scan(d, 1, n, 7)
			if want := spelt(d, 1, n, 7); !same(got, want) || e != api.OK {
				t.Fatalf("%s: Scan of %d sectors: %s, %d; by the words %s", sectors(d), n, short(got), e, short(want))
			}
		}
	}
}

// P7.2, held against the chapter's words: long areas, of which some sectors are spoilt.
func TestScanOfSpoiltSectors(t *testing.T) {
	for seed := range uint64(3000) {
		r := rand.New(rand.NewPCG(seed, 32))
		n, epoch := 1+r.IntN(30), epochs[r.IntN(len(epochs))]
		d := disk(t, n+1)
		j := begin(t, d, 0, n, epoch)
		for range 12 {
			j.Append(row(r.Uint64(), lengths[r.IntN(len(lengths))]))
		}
		for range 1 + r.IntN(3) {
			i := r.IntN(n)
			b, _ := d.Read(i)
			switch r.IntN(5) {
			case 0:
				tear(t, d, i)
				continue
			case 1:
				b = b[:r.IntN(len(b)+1)]
			case 2:
				b, _ = d.Read(r.IntN(n))
			case 3:
				b = append(b, row(seed, size-len(b))...)[:len(b)+r.IntN(size-len(b)+1)]
			default:
				for k := range b {
					if r.IntN(30) == 0 {
						b[k] ^= 1 << r.IntN(8)
					}
				}
			}
			lay(t, d, i, b)
		}
		inAnyPower(t, fmt.Sprint("seed ", seed), d, 0, n, epoch, spelt(d, 0, n, epoch)...)
	}
}

// P7.3 to P7.5: two journals side by side on one disk, of the same epoch and of others, to which records are appended in turn.
func TestTwoJournalsSideBySide(t *testing.T) {
	for _, epoch := range []int{3, 4} {
		d := disk(t, 20)
		a, b := begin(t, d, 0, 10, 3), begin(t, d, 10, 10, epoch)
		var as, bs [][]byte
		for k := range 5 {
			as, bs = append(as, row(33, 10*k)), append(bs, row(34, 80-10*k))
			add(t, a, as[k])
			add(t, b, bs[k])
			counts(t, "the first one", a, 10-len(all(3, as...)), k+1)
			counts(t, "the second one", b, 10-len(all(3, bs...)), k+1)
			holds(t, "the first one", d, 0, 10, 3, as...)
			holds(t, "the second one", d, 10, 10, epoch, bs...)
		}
		answers(t, "the second one is full", b.Append(row(35, 81)), api.ErrFull)
		d.Arm(1)
		answers(t, "the first one is interrupted", a.Append(row(35, 41)), api.ErrDown)
		counts(t, "the second one", b, 10-len(all(3, bs...)), 5)
		holds(t, "the second one, without power", d, 10, 10, epoch, bs...)
		d.Crash([]int{1})
		holds(t, "the first one", d, 0, 10, 3, as...)
		holds(t, "the second one", d, 10, 10, epoch, bs...)
		add(t, begin(t, d, 0, 10, 5), []byte("new"))
		holds(t, "the second one, the first one anew", d, 10, 10, epoch, bs...)
		holds(t, "both areas at once", d, 0, 20, 5, []byte("new"))
	}
}

// P7.6: journals one behind another in the same area, each with a later epoch: those of the earlier ones are not returned.
func TestLaterEpochs(t *testing.T) {
	contents := [][][]byte{nil, {nil}, {[]byte("one")}, {row(36, 81), nil}, {nil, row(36, 41), []byte("three")}, {row(36, 320)}, {nil, nil, nil, nil, nil, nil, nil, nil}}
	for _, early := range contents {
		for _, late := range contents {
			d := disk(t, 9)
			add(t, begin(t, d, 1, 8, 6), early...)
			holds(t, "an epoch that was never used", d, 1, 8, 7)
			j := begin(t, d, 1, 8, 7)
			counts(t, "a later epoch", j, 8, 0)
			holds(t, "a later epoch without records", d, 1, 8, 7)
			holds(t, "the earlier epoch, nothing was written since", d, 1, 8, 6, early...)
			for k, p := range late {
				add(t, j, p)
				holds(t, "a later epoch", d, 1, 8, 7, late[:k+1]...)
				holds(t, "the earlier epoch", d, 1, 8, 6)
			}
			for _, epoch := range []int{1, 5, 8, 6 + 1<<32, 7 + 1<<32, top} {
				inAnyPower(t, "an epoch that was never used", d, 1, 8, epoch)
			}
			inAnyPower(t, "a later epoch", d, 1, 8, 7, late...)
		}
	}
}

// place is an area of a disk, with what its journal must have.
type place struct {
	from, n, epoch int
	j              *journal.Journal
	records        [][]byte
}

// P7.1 to P7.6: long scripts with three areas on one disk, whose power fails at any time; each area has a journal anew behind that.
func TestLongScripts(t *testing.T) {
	for seed := range uint64(1500) {
		r := rand.New(rand.NewPCG(seed, 37))
		d := disk(t, 30)
		places := []*place{{from: 0, n: 1 + r.IntN(9)}, {from: 10, n: 10}, {from: 21, n: 9}}
		for _, x := range places {
			x.epoch = 1 + r.IntN(3)
			x.j = begin(t, d, x.from, x.n, x.epoch)
		}
		for range 40 {
			x := places[r.IntN(3)]
			p := row(r.Uint64(), lengths[r.IntN(len(lengths))])
			if r.IntN(4) == 0 {
				d.Arm(r.IntN(7))
			}
			room := x.n - len(all(1, x.records...))
			e := x.j.Append(p)
			switch {
			case len(laid(1, 1, p)) > room:
				answers(t, "no room", e, api.ErrFull)
			case e == api.OK:
				room -= len(laid(1, 1, p))
				x.records = append(x.records, p)
			default:
				answers(t, "interrupted", e, api.ErrDown)
			}
			counts(t, fmt.Sprint("seed ", seed), x.j, room, len(x.records))
			if d.Down() {
				interrupted(t, r, d, places, x, p)
			}
			for _, y := range places {
				holds(t, fmt.Sprint("seed ", seed), d, y.from, y.n, y.epoch, y.records...)
			}
			if r.IntN(12) == 0 {
				renew(t, d, x)
			}
		}
	}
}

// interrupted brings the power back behind an Append of p to x that was interrupted, and gives each area a journal anew.
func interrupted(t *testing.T, r *rand.Rand, d *sector.Disk, places []*place, x *place, p []byte) {
	t.Helper()
	l := make([]int, len(d.Dirty()))
	for i := range l {
		l[i] = []int{1, 1, 1, 0, 2}[r.IntN(5)]
	}
	whole := len(l) == len(laid(1, 1, p)) && kept(l)
	d.Crash(l)
	if whole {
		x.records = append(x.records, p)
	}
	for _, y := range places {
		holds(t, fmt.Sprintf("interrupted, fates %v", l), d, y.from, y.n, y.epoch, y.records...)
		renew(t, d, y)
	}
}

// renew gives an area a journal of the next epoch.
func renew(t *testing.T, d *sector.Disk, x *place) {
	t.Helper()
	x.epoch++
	x.j, x.records = begin(t, d, x.from, x.n, x.epoch), nil
	holds(t, "a new epoch", d, x.from, x.n, x.epoch)
}

// R4: the same calls have the same results.
func TestSameCallsSameResults(t *testing.T) {
	trace := func() string {
		r := rand.New(rand.NewPCG(38, 38))
		d := disk(t, 40)
		j := begin(t, d, 3, 30, 2)
		var s strings.Builder
		for range 60 {
			if r.IntN(5) == 0 {
				d.Arm(r.IntN(9))
			}
			e := j.Append(row(r.Uint64(), r.IntN(200)))
			l, f := journal.Scan(d, 3, 30, 2)
			fmt.Fprint(&s, e, j.Room(), j.Count(), l, f, seen(d))
			if e != api.OK {
				d.Crash([]int{1, 0, 2})
				j = begin(t, d, 3, 30, 2)
			}
		}
		return s.String()
	}
	first := trace()
	for range 3 {
		if trace() != first {
			t.Fatal("another answer the second time")
		}
	}
}

// spare is b with memory behind it that nothing may write into.
func spare(b []byte) []byte {
	return append(bytes.Clone(b), bytes.Repeat([]byte{0xAA}, 70)...)[:len(b)]
}

// untouched reports whether b, with all of its memory, is still what spare made of want.
func untouched(b, want []byte) bool {
	return bytes.Equal(b, want) && bytes.Equal(b[len(b):len(b)+70], bytes.Repeat([]byte{0xAA}, 70))
}

// fill writes into all the memory that b reaches.
func fill(b []byte, v byte) {
	b = b[:cap(b)]
	for i := range b {
		b[i] = v
	}
}

// R3: Append neither changes nor keeps its bytes, whether it is done, refused or interrupted.
func TestMemoryOfAppend(t *testing.T) {
	for _, n := range append([]int{longest, longest + 1, 3000}, lengths...) {
		for _, left := range []int{-1, 0, 1, 2, 3, 4} {
			d := disk(t, 90)
			j := begin(t, d, 0, 85, 2)
			add(t, j, []byte("one"))
			p := spare(row(39, n))
			d.Arm(left)
			j.Append(p)
			d.Arm(-1)
			if !untouched(p, row(39, n)) {
				t.Errorf("Append of %d bytes, %d operations left, changed its argument or the memory behind it", n, left)
			}
			before := seen(d)
			fill(p, 0x66)
			if seen(d) != before {
				t.Errorf("Append of %d bytes, %d operations left: the disk hangs on its argument", n, left)
			}
			if !d.Down() && n <= 3000 {
				holds(t, "the argument overwritten", d, 0, 85, 2, []byte("one"), row(39, n))
				p = spare([]byte("next"))
				add(t, j, p)
				fill(p, 0x66)
				holds(t, "both arguments overwritten", d, 0, 85, 2, []byte("one"), row(39, n), []byte("next"))
			}
		}
	}
}

// R3: an Append does not read what lies behind its argument.
func TestAppendDoesNotReadBehindItsArgument(t *testing.T) {
	whole := row(40, 200)
	for n := range 121 {
		d := disk(t, 5)
		add(t, begin(t, d, 0, 5, 2), whole[:n])
		holds(t, fmt.Sprintf("%d bytes of more", n), d, 0, 5, 2, bytes.Clone(whole[:n]))
	}
}

// R3: what Scan answers shares nothing with the disk, with another answer, or among its records.
func TestMemoryOfScan(t *testing.T) {
	records := [][]byte{row(41, 1), nil, row(41, 40), row(41, 41), row(41, 100), nil, row(41, 3)}
	d := disk(t, 20)
	add(t, begin(t, d, 0, 20, 2), records...)
	first, _ := journal.Scan(d, 0, 20, 2)
	second, _ := journal.Scan(d, 0, 20, 2)
	for k := range first {
		fill(first[k], 0x55)
		for i := range first {
			if i > k && !bytes.Equal(first[i], records[i]) {
				t.Errorf("the record %d shares memory with the record %d", i, k)
			}
			if i < k && bytes.ContainsFunc(first[i][:cap(first[i])], func(c rune) bool { return c != 0x55 }) {
				t.Errorf("the record %d shares memory with the record %d", i, k)
			}
		}
	}
	for i := range first[:cap(first)] {
		first[:cap(first)][i] = nil
	}
	if !same(second, records) {
		t.Error("Scan's answer shares memory with another one")
	}
	holds(t, "an answer overwritten", d, 0, 20, 2, records...)
	third, _ := journal.Scan(d, 0, 20, 2)
	add(t, begin(t, d, 0, 20, 3), row(41, 500))
	if !same(third, records) {
		t.Error("Scan's answer hangs on a later Append")
	}
}

// R3: nothing that New and Scan are given is kept but the disk, and two journals have nothing in common.
func TestTwoJournalsOnTwoDisks(t *testing.T) {
	c, d := disk(t, 4), disk(t, 5)
	a, b := begin(t, c, 0, 4, 2), begin(t, d, 0, 5, 2)
	add(t, a, []byte("one"), []byte("two"))
	counts(t, "the other one", b, 5, 0)
	holds(t, "the other disk", d, 0, 5, 2)
	fail(c)
	answers(t, "the one without power", a.Append(nil), api.ErrDown)
	add(t, b, row(42, 41))
	counts(t, "the other one", b, 3, 1)
	counts(t, "the first one", a, 2, 2)
	holds(t, "the first disk", c, 0, 4, 2, []byte("one"), []byte("two"))
}
