package check_test

import (
	"bytes"
	"encoding/binary"
	"fmt"
	"math"
	"math/big"
	"math/rand/v2"
	"slices"
	"strings"
	"testing"

	"glebe/api"
	"glebe/check"
	"glebe/pack"
	"glebe/sector"
)

// The document's numbers, held against api's by TestLimits.
const (
	part = 40
	size = 64
	most = 16384
	top  = 1 << 40
)

// far are numbers that are out of their place wherever they stand.
var far = []int{math.MinInt, math.MinInt + 1, -top, -1 << 32, -2, -1, top + 1, math.MaxInt/2 + 1, math.MaxInt - most, math.MaxInt - 1, math.MaxInt}

// epochs are all sorts of them, the least and the greatest among them, ascending.
var epochs = []int{1, 2, 7, 255, 256, 1 << 16, 1<<32 - 1, 1 << 32, 1<<32 + 1, top - 1, top}

// lengths are the edges of byte strings that an area of a few sectors has room for.
var lengths = []int{0, 1, 39, 40, 41, 79, 80, 81, 119, 120, 121}

// row is the same n bytes at every run: what a test finds must be found again.
func row(seed uint64, n int) []byte {
	r := rand.New(rand.NewPCG(seed, uint64(n)))
	b := make([]byte, n)
	for i := range b {
		b[i] = byte(r.Uint32())
	}
	return b
}

func disk(t *testing.T, n int) *sector.Disk {
	t.Helper()
	d, e := sector.New(n)
	if e != api.OK {
		t.Fatalf("a disk of %d sectors: %d", n, e)
	}
	return d
}

// lay writes a sector and flushes it.
func lay(t *testing.T, d *sector.Disk, i int, b []byte) {
	t.Helper()
	if e := d.Write(i, b); e != api.OK {
		t.Fatalf("Write of %d bytes to sector %d: %d", len(b), i, e)
	}
	if e := d.Flush(); e != api.OK {
		t.Fatalf("Flush: %d", e)
	}
}

// tear tears a sector.
func tear(t *testing.T, d *sector.Disk, i int) {
	t.Helper()
	if e := d.Write(i, nil); e != api.OK {
		t.Fatalf("Write to sector %d: %d", i, e)
	}
	d.Crash([]int{2})
}

// fail makes the power fail; what is in the cache stays there.
func fail(d *sector.Disk) {
	d.Arm(0)
	d.Flush()
}

// save saves what must be saved.
func save(t *testing.T, d *sector.Disk, at, n, epoch int, p []byte) {
	t.Helper()
	if e := check.Save(d, at, n, epoch, p); e != api.OK {
		t.Fatalf("Save at %d, %d sectors, epoch %d, %d bytes: %d", at, n, epoch, len(p), e)
	}
}

// answers holds the error of a call against the one that is asked for.
func answers(t *testing.T, what string, got, want api.Errno) {
	t.Helper()
	if got != want {
		t.Errorf("%s: %d, want %d", what, got, want)
	}
}

// short tells bytes by their number and the first of them.
func short(p []byte) string { return fmt.Sprintf("%d:%X", len(p), p[:min(len(p), 4)]) }

// loads holds Load against the bytes and the epoch that are asked for; the epoch 0 stands for none.
func loads(t *testing.T, what string, d *sector.Disk, at, n int, want []byte, epoch int) {
	t.Helper()
	no := api.OK
	if epoch == 0 {
		no = api.ErrNone
	}
	p, k, e := check.Load(d, at, n)
	if !bytes.Equal(p, want) || k != epoch || e != no {
		t.Errorf("%s: Load at %d, %d sectors: %s, %d, %d; want %s, %d, %d", what, at, n, short(p), k, e, short(want), epoch, no)
	}
	if e != api.OK && p != nil {
		t.Errorf("%s: bytes beside an error: %X", what, p)
	}
}

// inAnyPower holds Load against what is asked for as the power is, without it, and behind a crash if nothing is dirty.
func inAnyPower(t *testing.T, what string, d *sector.Disk, at, n int, want []byte, epoch int) {
	t.Helper()
	loads(t, what, d, at, n, want, epoch)
	fail(d)
	loads(t, what+", without power", d, at, n, want, epoch)
	if len(d.Dirty()) == 0 {
		d.Crash(nil)
		loads(t, what+", after a crash", d, at, n, want, epoch)
	}
}

// head is the bytes ahead of a piece, by the chapter's words.
func head(epoch, zero, mark int) []byte {
	var b []byte
	for _, v := range []int{epoch, zero, mark} {
		b = binary.BigEndian.AppendUint64(b, uint64(v))
	}
	return b
}

// laid is the sectors of the pieces of a byte string, by the chapter's words.
func laid(epoch int, p []byte) [][]byte {
	var l [][]byte
	for from := 0; from == 0 || from < len(p); from += part {
		end, mark := min(from+part, len(p)), 2*(from/part)
		if end == len(p) {
			mark++
		}
		l = append(l, append(head(epoch, 0, mark), p[from:end]...))
	}
	return l
}

func same(a, b [][]byte) bool { return slices.EqualFunc(a, b, bytes.Equal) }

// slotted is the bytes and the epoch of a slot by the chapter's words: whole pieces of one epoch up to a last one, of which no number of bytes is asked; the epoch 0 if it is not complete.
func slotted(d *sector.Disk, first, n, slot int) ([]byte, int) {
	var p []byte
	epoch := 0
	for k := range n {
		b, e := d.Read(first + k)
		if e != api.OK || len(b) < size-part {
			return nil, 0
		}
		if k == 0 {
			epoch = int(binary.BigEndian.Uint64(b))
		}
		if epoch < 1 || epoch > top || epoch%2 != slot {
			return nil, 0
		}
		p = append(p, b[size-part:]...)
		switch {
		case bytes.HasPrefix(b, head(epoch, 0, 2*k+1)):
			return p, epoch
		case !bytes.HasPrefix(b, head(epoch, 0, 2*k)) || len(b) != size:
			return nil, 0
		}
	}
	return nil, 0
}

// spelt is what Load must answer, by the chapter's words.
func spelt(d *sector.Disk, at, n int) ([]byte, int) {
	p, a := slotted(d, at, n, 0)
	q, b := slotted(d, at+n, n, 1)
	if b > a {
		return q, b
	}
	return p, a
}

// sectors is what Read answers for each sector.
func sectors(d *sector.Disk) string {
	var s strings.Builder
	for i := range d.Len() {
		b, e := d.Read(i)
		fmt.Fprintf(&s, "%d:%X/%d ", i, b, e)
	}
	return s.String()
}

// seen is what can be read from a disk without changing it.
func seen(d *sector.Disk) string {
	return fmt.Sprint(d.Len(), " ", d.Down(), d.Dirty(), sectors(d))
}

// hidden is what only further calls show: the operations that are left, up to twenty, and the durable states beneath the cache.
func hidden(d *sector.Disk) string {
	n := 0
	for n < 20 && d.Write(0, nil) == api.OK {
		n++
	}
	d.Crash(nil)
	return fmt.Sprint(n, " ", sectors(d))
}

// states make disks of eight sectors in all sorts of states, with checkpoints in the area of twice three sectors from the second one on.
func states(t *testing.T) map[string]func() *sector.Disk {
	empty := func() *sector.Disk { return disk(t, 8) }
	used := func() *sector.Disk {
		d := empty()
		save(t, d, 1, 3, 7, row(1, 50))
		save(t, d, 1, 3, 8, row(1, 100))
		lay(t, d, 0, row(2, size))
		tear(t, d, 7)
		return d
	}
	torn := func() *sector.Disk {
		d := used()
		tear(t, d, 1)
		return d
	}
	dirty := func() *sector.Disk {
		d := used()
		d.Write(5, row(3, 9))
		d.Write(0, nil)
		return d
	}
	down := func() *sector.Disk {
		d := dirty()
		fail(d)
		return d
	}
	armed := func(n int) func() *sector.Disk {
		return func() *sector.Disk {
			d := dirty()
			d.Arm(n)
			return d
		}
	}
	return map[string]func() *sector.Disk{
		"empty": empty, "used": used, "torn": torn, "dirty": dirty, "down": down,
		"armed for none": armed(0), "armed for one": armed(1), "armed for five": armed(5),
	}
}

func TestLimits(t *testing.T) {
	if api.PieceSize != part || api.SectorSize != size || api.MaxSectors != most || api.MaxNumber != top {
		t.Errorf("api has other limits than the document: %d, %d, %d, %d", api.PieceSize, api.SectorSize, api.MaxSectors, api.MaxNumber)
	}
}

// P8.1 and P8.2, the chapter's table.
func TestExamples(t *testing.T) {
	d := disk(t, 10)
	loads(t, "a new disk", d, 1, 3, nil, 0)
	answers(t, "Save of the epoch 1", check.Save(d, 1, 3, 1, []byte{7}), api.OK)
	loads(t, "one byte", d, 1, 3, []byte{7}, 1)
	want := append(pack.Int(pack.Int(pack.Int(nil, 1), 0), 1), 7)
	if b, e := d.Read(4); !bytes.Equal(b, want) || e != api.OK {
		t.Errorf("sector 4: %X, %d; want %X, OK", b, e, want)
	}
	answers(t, "Save of 120 bytes", check.Save(d, 1, 3, 2, row(4, 120)), api.OK)
	answers(t, "Save of 121 bytes", check.Save(d, 1, 3, 3, row(4, 121)), api.ErrLong)
	loads(t, "120 bytes", d, 1, 3, row(4, 120), 2)
	tear(t, d, 1)
	loads(t, "the sector 1 is torn", d, 1, 3, []byte{7}, 1)
	for _, x := range [][3]int{{1, 3, 0}, {4, 4, 1}, {-1, 1, 1}} {
		answers(t, fmt.Sprint("Save ", x), check.Save(d, x[0], x[1], x[2], nil), api.ErrRange)
	}
}

// area reports whether the disk has the area, in numbers of any size.
func area(whole, at, n int) bool {
	sum := new(big.Int).Mul(big.NewInt(2), big.NewInt(int64(n)))
	sum.Add(sum, big.NewInt(int64(at)))
	return at >= 0 && n >= 1 && sum.Cmp(big.NewInt(int64(whole))) <= 0
}

// places are the edges of a disk's sectors and of their numbers.
func places(whole int) []int {
	l := append([]int{0, 1, 2, 3, whole/2 - 1, whole / 2, whole/2 + 1, whole - 3, whole - 2, whole - 1, whole, whole + 1, whole + 2}, far...)
	return append(l, math.MaxInt-whole, math.MaxInt-whole+1, math.MaxInt/2-whole/2, math.MaxInt/2)
}

// P8.1, P8.2 and R2: every at, number of sectors and epoch out of the edges.
func TestAreasAndEpochs(t *testing.T) {
	for _, whole := range []int{1, 2, 3, 8, 9, most} {
		for _, at := range places(whole) {
			for _, n := range places(whole) {
				d := disk(t, whole)
				if !area(whole, at, n) {
					if p, k, e := check.Load(d, at, n); p != nil || k != 0 || e != api.ErrRange {
						t.Errorf("%d sectors, Load at %d, %d sectors: %X, %d, %d; want ErrRange", whole, at, n, p, k, e)
					}
				} else {
					loads(t, fmt.Sprint(whole, " sectors, all empty"), d, at, n, nil, 0)
				}
				greatest := 0
				for _, epoch := range append(append([]int{0}, far...), epochs...) {
					what := fmt.Sprintf("%d sectors, Save at %d, %d sectors, epoch %d", whole, at, n, epoch)
					want := api.OK
					if !area(whole, at, n) || epoch < 1 || epoch > top {
						want = api.ErrRange
					}
					answers(t, what, check.Save(d, at, n, epoch, []byte{byte(epoch)}), want)
					if len(d.Dirty()) > 0 || d.Down() {
						t.Errorf("%s: dirty are %v", what, d.Dirty())
					}
					if want == api.OK {
						greatest = epoch
					}
					if greatest > 0 {
						loads(t, what, d, at, n, []byte{byte(greatest)}, greatest)
					}
				}
				if i := nonEmpty(d); greatest == 0 && i >= 0 {
					t.Errorf("%d sectors, at %d, %d sectors: sector %d was written", whole, at, n, i)
				}
			}
		}
	}
}

// nonEmpty is the first sector with bytes, or below 0.
func nonEmpty(d *sector.Disk) int {
	for i := range d.Len() {
		if b, e := d.Read(i); len(b) > 0 || e != api.OK {
			return i
		}
	}
	return -1
}

// P8.1 and P8.2: the area whose last sector is the disk's last one, and the one with one sector more.
func TestAreaAtTheDisksEnd(t *testing.T) {
	for whole := 1; whole <= 12; whole++ {
		for at := -1; at <= whole+1; at++ {
			for n := -1; n <= whole+1; n++ {
				d := disk(t, whole)
				what := fmt.Sprintf("%d sectors, at %d, %d sectors", whole, at, n)
				if at < 0 || n < 1 || at+2*n > whole {
					answers(t, what, check.Save(d, at, n, 2, nil), api.ErrRange)
					if p, k, e := check.Load(d, at, n); p != nil || k != 0 || e != api.ErrRange {
						t.Errorf("%s: Load %X, %d, %d; want ErrRange", what, p, k, e)
					}
					continue
				}
				save(t, d, at, n, 2, row(5, n*part))
				save(t, d, at, n, 3, row(6, n*part))
				for k := range n {
					for slot, epoch := range []int{2, 3} {
						want := laid(epoch, row(uint64(5+slot), n*part))[k]
						if b, e := d.Read(at + slot*n + k); !bytes.Equal(b, want) || e != api.OK {
							t.Errorf("%s: sector %d: %X, %d; want %X", what, at+slot*n+k, b, e, want)
						}
					}
				}
				loads(t, what, d, at, n, row(6, n*part), 3)
				tear(t, d, at+2*n-1)
				loads(t, what+", the last one torn", d, at, n, row(5, n*part), 2)
			}
		}
	}
}

// P8.1 and R2: the first error that applies, and nothing has changed.
func TestFirstErrorCounts(t *testing.T) {
	areas := [][2]int{{1, 3}, {0, 4}, {2, 3}, {6, 1}, {0, 1}, {-1, 3}, {1, 0}, {1, -3}, {3, 3}, {2, 4}, {7, 1}, {8, 1}, {math.MaxInt, 1}, {1, math.MaxInt}, {math.MaxInt, math.MaxInt}, {0, math.MaxInt/2 + 1}, {2, math.MaxInt / 2}, {math.MinInt, math.MinInt}}
	for name, fresh := range states(t) {
		untouched := fresh()
		before, beneath := seen(untouched), hidden(untouched)
		for _, x := range areas {
			for _, epoch := range []int{1, 2, 7, 8, 9, top, 0, -1, top + 1, math.MinInt, math.MaxInt} {
				for _, n := range []int{0, 1, 40, 41, 80, 81, 120, 121, 160, 161, 200, 4096} {
					want := api.OK
					switch {
					case !area(8, x[0], x[1]) || epoch < 1 || epoch > top:
						want = api.ErrRange
					case n > x[1]*part:
						want = api.ErrLong
					default:
						continue // it is not refused
					}
					d := fresh()
					what := fmt.Sprintf("%s: Save %v of %d bytes, epoch %d", name, x, n, epoch)
					for range 2 {
						answers(t, what, check.Save(d, x[0], x[1], epoch, row(7, n)), want)
					}
					if after := seen(d); after != before {
						t.Errorf("%s: %s, before it %s", what, after, before)
					}
					if after := hidden(d); after != beneath {
						t.Errorf("%s: hidden %s, before it %s", what, after, beneath)
					}
				}
			}
		}
	}
}

// P8.2 and R2: Load, refused or not, changes nothing of the disk, whatever state it is in.
func TestLoadChangesNothing(t *testing.T) {
	for name, fresh := range states(t) {
		untouched := fresh()
		before, beneath := seen(untouched), hidden(untouched)
		for _, x := range [][2]int{{1, 3}, {0, 4}, {2, 3}, {6, 1}, {0, 1}, {-1, 3}, {1, 0}, {3, 3}, {8, 1}, {1, math.MaxInt}} {
			d := fresh()
			p, k, e := check.Load(d, x[0], x[1])
			q, l, f := check.Load(d, x[0], x[1])
			if !bytes.Equal(p, q) || k != l || e != f {
				t.Errorf("%s: Load %v: %s, %d, %d, then %s, %d, %d", name, x, short(p), k, e, short(q), l, f)
			}
			if after := seen(d); after != before {
				t.Errorf("%s: Load %v: %s, before it %s", name, x, after, before)
			}
			if after := hidden(d); after != beneath {
				t.Errorf("%s: Load %v: hidden %s, before it %s", name, x, after, beneath)
			}
		}
	}
}

// edges are lengths of byte strings, with their numbers of pieces.
func edges() map[int]int {
	m := map[int]int{0: 1, 1: 1, 39: 1, 40: 1, 41: 2, 79: 2, 80: 2, 81: 3, 81919: 2048, 81920: 2048, 81921: 2049, 327679: 8192, 327680: 8192}
	for n := 1; n <= 240; n++ {
		m[n] = (n + 39) / 40
	}
	for _, k := range []int{9, 16, 25, 127, 128, 129, 255, 256, 257} {
		m[40*k-1], m[40*k], m[40*k+1] = k, k, k+1
	}
	return m
}

// P8.1 and P8.2: a byte string of each length, in an area whose slots have one sector fewer than it has pieces, just as many, and one more: these very sectors of its slot, and none beside them.
func TestSectorsOfEachLength(t *testing.T) {
	for length, k := range edges() {
		for _, n := range []int{k - 1, k, k + 1} {
			if n < 1 || 2*n+2 > most && n != most/2 {
				continue
			}
			at, whole := 1, 2*n+2
			if whole > most {
				at, whole = 0, most
			}
			for i, p := range [][]byte{row(8, length), make([]byte, length), bytes.Repeat([]byte{0xFF}, length)}[:max(1, 3-length/300)] {
				epoch := epochs[(length+i)%len(epochs)]
				eachLength(t, whole, at, n, k, epoch, p)
			}
		}
	}
}

// eachLength saves p, of k pieces, on a disk whose sectors all have bytes.
func eachLength(t *testing.T, whole, at, n, k, epoch int, p []byte) {
	t.Helper()
	d := disk(t, whole)
	want := make([][]byte, whole)
	for i := range want {
		want[i] = row(uint64(9+i%3), size)
		d.Write(i, want[i])
	}
	d.Flush()
	what := fmt.Sprintf("%d bytes, %d sectors, epoch %d", len(p), n, epoch)
	if k > n {
		answers(t, what, check.Save(d, at, n, epoch, p), api.ErrLong)
		inAnyPower(t, what, d, at, n, nil, 0)
	} else {
		answers(t, what, check.Save(d, at, n, epoch, p), api.OK)
		copy(want[at+epoch%2*n:], laid(epoch, p))
		if l := d.Dirty(); len(l) != 0 {
			t.Errorf("%s: %d sectors are dirty", what, len(l))
		}
		inAnyPower(t, what, d, at, n, p, epoch)
	}
	for i := range want {
		if b, e := d.Read(i); !bytes.Equal(b, want[i]) || e != api.OK {
			t.Fatalf("%s: sector %d: %X, %d; want %X, OK", what, i, b, e, want[i])
		}
	}
}

// P8.1 and P8.2: of two checkpoints in the two slots, in whatever order they were saved, that of the greater epoch is loaded; each slot is its epoch's.
func TestGreaterEpochIsLoaded(t *testing.T) {
	for _, a := range epochs {
		for _, b := range epochs {
			d := disk(t, 9)
			p, q := row(uint64(a), 100), row(uint64(b), 45)
			save(t, d, 1, 4, a, p)
			loads(t, fmt.Sprint("the epoch ", a), d, 1, 4, p, a)
			save(t, d, 1, 4, b, q)
			what := fmt.Sprintf("the epochs %d and %d", a, b)
			for k, want := range laid(b, q) {
				if got, _ := d.Read(1 + b%2*4 + k); !bytes.Equal(got, want) {
					t.Errorf("%s: sector %d: %X, want %X", what, 1+b%2*4+k, got, want)
				}
			}
			want, epoch := q, b
			if a%2 != b%2 && a > b {
				want, epoch = p, a
			}
			inAnyPower(t, what, d, 1, 4, want, epoch)
			other, rest := p, a
			if epoch == a && a != b {
				other, rest = q, b
			}
			tear(t, d, 1+epoch%2*4)
			if a%2 == b%2 {
				other, rest = nil, 0
			}
			inAnyPower(t, what+", the greater one torn", d, 1, 4, other, rest)
		}
	}
}

// P8.1 and P8.3: one checkpoint after the other, each with the next epoch, of all lengths one behind the other; what is saved is loaded.
func TestOneAfterTheOther(t *testing.T) {
	for _, from := range []int{1, 2, 255, 1<<32 - 3, top - 140} {
		for _, at := range []int{0, 2} {
			d := disk(t, at+8)
			epoch, last := from, []byte(nil)
			for _, a := range lengths {
				for _, b := range lengths {
					p := row(uint64(a), b)
					save(t, d, at, 4, epoch, p)
					what := fmt.Sprintf("epoch %d, %d bytes", epoch, b)
					inAnyPower(t, what, d, at, 4, p, epoch)
					if a == b {
						tear(t, d, at+epoch%2*4)
						before := 0
						if epoch > from {
							before = epoch - 1
						}
						inAnyPower(t, what+", torn", d, at, 4, last, before)
						save(t, d, at, 4, epoch, p)
						inAnyPower(t, what+", saved once more", d, at, 4, p, epoch)
					}
					last = p
					epoch++
				}
			}
		}
	}
}

// step is a call of a Save: a write of a sector, or a flush.
type step struct {
	flush  bool
	sector int
	bytes  []byte
}

// steps are the calls of a Save, by the chapter's words.
func steps(at, n, epoch int, p []byte) []step {
	first, sectors := at+epoch%2*n, laid(epoch, p)
	var l []step
	for k, b := range sectors {
		if k > 0 {
			l = append(l, step{sector: first + k, bytes: b})
		}
	}
	if len(l) > 0 {
		l = append(l, step{flush: true})
	}
	return append(l, step{sector: first, bytes: sectors[0]}, step{flush: true})
}

// fates are all lists of so many fates of a sector, torn in more than one way.
func fates(k int) [][]int {
	l := [][]int{nil}
	for range k {
		var longer [][]int
		for _, x := range l {
			for _, fate := range []int{0, 1, 2} {
				if fate == 2 && len(x)%2 == 1 {
					fate = -1
				}
				longer = append(longer, append(slices.Clone(x), fate))
			}
		}
		l = longer
	}
	return l
}

// ground is a disk with the area of twice four sectors from the second one on, and what is loaded there.
type ground struct {
	name  string
	fresh func() *sector.Disk
	p     []byte
	epoch int
}

// grounds are areas with checkpoints of all sorts, or none.
func grounds(t *testing.T) []ground {
	of := func(lengths ...int) func() *sector.Disk {
		return func() *sector.Disk {
			d := disk(t, 10)
			lay(t, d, 0, row(10, size))
			lay(t, d, 9, row(10, size))
			for k, n := range lengths {
				save(t, d, 1, 4, 5+k, row(10, n))
			}
			return d
		}
	}
	torn := func() *sector.Disk {
		d := of(45, 90)()
		for i := 1; i < 9; i++ {
			tear(t, d, i)
		}
		return d
	}
	half := func() *sector.Disk {
		d := of(45, 90)()
		tear(t, d, 1) // as an interrupted Save leaves it; it never leaves the first sector beside another one that is torn
		return d
	}
	lower := func() *sector.Disk {
		d := of(45, 90)()
		tear(t, d, 6)
		return d
	}
	return []ground{
		{"empty", of(), nil, 0}, {"torn", torn, nil, 0}, {"one checkpoint", of(50), row(10, 50), 5}, {"two", of(160, 1), row(10, 1), 6},
		{"three", of(1, 160, 90), row(10, 90), 7}, {"empty ones", of(0, 0, 0, 0), nil, 8}, {"the odd one alone", half, row(10, 45), 5}, {"the even one alone", lower, row(10, 90), 6},
	}
}

// P8.1 to P8.4: the power fails at each write and each flush, and each sector that was not flushed has each fate.
func TestPowerFailsAtEachOperation(t *testing.T) {
	for _, g := range grounds(t) {
		for _, n := range lengths {
			p, epoch := row(11, n), g.epoch+1
			l := steps(1, 4, epoch, p)
			for left := range len(l) {
				dirty := 0
				for _, s := range l[:left] {
					if dirty++; s.flush {
						dirty = 0
					}
				}
				for _, x := range fates(dirty) {
					interrupted(t, g, epoch, p, l[:left], x)
				}
			}
			d := g.fresh()
			d.Arm(len(l))
			what := fmt.Sprintf("%s, %d bytes, just as many operations as it takes", g.name, n)
			answers(t, what, check.Save(d, 1, 4, epoch, p), api.OK)
			if d.Down() || len(d.Dirty()) > 0 {
				t.Errorf("%s: down %v, dirty %v", what, d.Down(), d.Dirty())
			}
			answers(t, what+", one more", d.Flush(), api.ErrDown)
			inAnyPower(t, what, d, 1, 4, p, epoch)
		}
	}
}

// interrupted saves p while the power lasts for these steps, decides what becomes of what was not flushed, and saves with the next epoch.
func interrupted(t *testing.T, g ground, epoch int, p []byte, done []step, x []int) {
	t.Helper()
	what := fmt.Sprintf("%s, %d bytes, %d operations, fates %v", g.name, len(p), len(done), x)
	d, twin := g.fresh(), g.fresh()
	d.Arm(len(done))
	answers(t, what, check.Save(d, 1, 4, epoch, p), api.ErrDown)
	for _, s := range done {
		if s.flush {
			twin.Flush()
		} else {
			twin.Write(s.sector, s.bytes)
		}
	}
	fail(twin)
	if seen(d) != seen(twin) {
		t.Fatalf("%s: %s, want %s", what, seen(d), seen(twin))
	}
	whole := len(done) > 0 && !done[len(done)-1].flush && done[len(done)-1].sector == 1+epoch%2*4
	want, now := g.p, g.epoch
	if whole {
		want, now = p, epoch
	}
	loads(t, what+", without power", d, 1, 4, want, now)
	before := seen(d)
	answers(t, what+", without power", check.Save(d, 1, 4, epoch, p), api.ErrDown)
	if seen(d) != before {
		t.Errorf("%s: a Save without power: %s, before it %s", what, seen(d), before)
	}
	d.Crash(x)
	twin.Crash(x)
	if seen(d) != seen(twin) {
		t.Fatalf("%s: after the crash %s, want %s", what, seen(d), seen(twin))
	}
	if whole && x[0] != 1 {
		want, now = g.p, g.epoch
	}
	inAnyPower(t, what, d, 1, 4, want, now)
	next := row(12, 155-len(p))
	save(t, d, 1, 4, now+1, next)
	inAnyPower(t, what+", then the next one", d, 1, 4, next, now+1)
	tear(t, d, 1+(now+1)%2*4)
	if p, k := spelt(d, 1, 4); k != now || !bytes.Equal(p, want) {
		now, want = k, p
		if k != 0 {
			t.Errorf("%s: behind the next one is the epoch %d", what, k)
		}
	}
	loads(t, what+", and that one torn", d, 1, 4, want, now)
}

// P8.1: a Save of one piece is a write and a flush; there are two flushes if there are more pieces.
func TestNumberOfOperations(t *testing.T) {
	for n, want := range map[int]int{0: 2, 1: 2, 39: 2, 40: 2, 41: 4, 79: 4, 80: 4, 81: 5, 120: 5, 121: 6, 160: 6} {
		for epoch := 1; epoch <= 4; epoch++ {
			for left := range want + 2 {
				d := disk(t, 10)
				d.Arm(left)
				no := api.OK
				if left < want {
					no = api.ErrDown
				}
				answers(t, fmt.Sprintf("%d bytes, epoch %d, %d operations", n, epoch, left), check.Save(d, 1, 4, epoch, row(61, n)), no)
			}
		}
	}
}

// P8.1: a sector that was dirty ahead of a Save of one piece becomes durable with its sector, and not ahead of it.
func TestNoFlushAheadOfASinglePiece(t *testing.T) {
	for _, n := range []int{0, 1, 40, 41} {
		d := disk(t, 10)
		d.Write(9, []byte("dirty"))
		d.Arm(len(laid(1, row(62, n))))
		answers(t, fmt.Sprintf("%d bytes", n), check.Save(d, 1, 4, 2, row(62, n)), api.ErrDown)
		want := []int{1, 9}
		if n > part {
			want = nil // its second piece is flushed, and the first one is not written yet
		}
		if !slices.Equal(d.Dirty(), want) {
			t.Errorf("%d bytes: dirty are %v, want %v", n, d.Dirty(), want)
		}
	}
}

// P8.1: without power a Save that is not refused is answered with ErrDown, and nothing has changed.
func TestSaveWithoutPower(t *testing.T) {
	for _, g := range grounds(t) {
		for _, epoch := range []int{1, 2, g.epoch + 1, g.epoch + 2, top} {
			for _, n := range lengths {
				d := g.fresh()
				d.Write(0, []byte("dirty"))
				fail(d)
				before := seen(d)
				what := fmt.Sprintf("%s, without power: Save of %d bytes, epoch %d", g.name, n, epoch)
				for range 2 {
					answers(t, what, check.Save(d, 1, 4, epoch, row(13, n)), api.ErrDown)
				}
				if after := seen(d); after != before {
					t.Errorf("%s: %s, before it %s", what, after, before)
				}
				loads(t, what, d, 1, 4, g.p, g.epoch)
				d.Crash([]int{1})
				inAnyPower(t, what+", behind it", d, 1, 4, g.p, g.epoch)
			}
		}
	}
}

// P8.1: a Save of the very bytes and epoch that are there already makes the same calls as any other.
func TestSaveOfTheSameOnceMore(t *testing.T) {
	for _, n := range lengths {
		p := row(51, n)
		l := steps(1, 4, 8, p)
		for left := range len(l) + 1 {
			d := disk(t, 10)
			save(t, d, 1, 4, 7, row(51, 30))
			save(t, d, 1, 4, 8, p)
			d.Arm(left)
			want := api.OK
			if left < len(l) {
				want = api.ErrDown
			}
			what := fmt.Sprintf("%d bytes once more, %d operations", n, left)
			answers(t, what, check.Save(d, 1, 4, 8, p), want)
			var dirty []int
			for _, s := range l[:left] {
				if dirty = append(dirty, s.sector); s.flush {
					dirty = nil
				}
			}
			if !slices.Equal(d.Dirty(), dirty) {
				t.Errorf("%s: dirty are %v, want %v", what, d.Dirty(), dirty)
			}
			loads(t, what, d, 1, 4, p, 8)
		}
	}
}

// attempt is a Save for which the power lasts for so many operations, with the fates of what was not flushed.
type attempt struct {
	length, left int
	fates        []int
}

// attempts are those of byte strings of these lengths: the power fails at each of their operations, or at none of them.
func attempts(lengths ...int) []attempt {
	var l []attempt
	for _, n := range lengths {
		dirty, s := 0, steps(0, 1, 2, row(14, n))
		for left := range len(s) + 1 {
			for _, x := range fates(dirty) {
				l = append(l, attempt{n, left, x})
			}
			if left < len(s) && s[left].flush {
				dirty = 0
			} else {
				dirty++
			}
		}
	}
	return l
}

// try makes an attempt with the epoch that was loaded plus one, and tells what is loaded afterwards.
func try(t *testing.T, d *sector.Disk, a attempt, seed uint64, p []byte, epoch int) ([]byte, int) {
	t.Helper()
	q := row(seed, a.length)
	d.Arm(a.left)
	e := check.Save(d, 1, 4, epoch+1, q)
	dirty := len(d.Dirty())
	d.Crash(a.fates)
	got, k, f := check.Load(d, 1, 4)
	switch {
	case k == epoch && bytes.Equal(got, p) && e == api.ErrDown:
	case k == epoch+1 && bytes.Equal(got, q) && f == api.OK && (e == api.OK || e == api.ErrDown && dirty > 0):
	default:
		t.Fatalf("%v, with the epoch %d: Save %d, then Load %s, %d, %d; before it there was %s", a, epoch+1, e, short(got), k, f, short(p))
	}
	return got, k
}

// P8.3 and P8.4: three attempts one behind the other, interrupted anywhere, also with the epoch with which one was being saved before.
func TestAttemptsOneBehindTheOther(t *testing.T) {
	l := attempts(0, 41, 100)
	for _, a := range l {
		for _, b := range l {
			for _, c := range l {
				d := disk(t, 10)
				p, epoch := try(t, d, a, 15, nil, 0)
				p, epoch = try(t, d, b, 16, p, epoch)
				try(t, d, c, 17, p, epoch)
			}
		}
	}
}

// P8.3 and P8.4: two attempts behind checkpoints of all sorts.
func TestAttemptsBehindCheckpoints(t *testing.T) {
	l := attempts(lengths...)
	for i, g := range grounds(t) {
		for k, a := range l {
			for m, b := range l {
				if (i+k+m)%5 > 0 { // each pair behind some of them
					continue
				}
				d := g.fresh()
				p, epoch := try(t, d, a, 18, g.p, g.epoch)
				try(t, d, b, 19, p, epoch)
			}
		}
	}
}

// P8.4: a byte string of as many pieces as the greatest slot has, interrupted at many places.
func TestPowerFailsInTheLongest(t *testing.T) {
	n := most / 2
	p, q := row(20, n*part), row(21, n*part)
	for _, left := range []int{0, 1, n - 2, n - 1, n, n + 1, n + 2} {
		for _, fate := range []int{0, 1, 2} {
			d := disk(t, most)
			save(t, d, 0, n, 1, row(22, 3))
			save(t, d, 0, n, 2, p)
			d.Arm(left)
			want, epoch := p, 2
			if e := check.Save(d, 0, n, 3, q); (e == api.OK) != (left == n+2) || e != api.OK && e != api.ErrDown {
				t.Errorf("%d operations: %d", left, e)
			}
			d.Crash(slices.Repeat([]int{fate}, len(d.Dirty())))
			if left == n+2 || left == n+1 && fate == 1 {
				want, epoch = q, 3
			}
			inAnyPower(t, fmt.Sprintf("%d operations, all %d", left, fate), d, 0, n, want, epoch)
		}
	}
}

// foreign are bytes that are not those of the k-th of three pieces of the epoch 8.
func foreign(k int, right []byte) map[string][]byte {
	last, piece := 0, right[size-part:]
	if k == 2 {
		last = 1
	}
	sector := func(numbers []byte, n int) []byte { return append(slices.Clone(numbers), piece[:n]...) }
	numbers, mark := right[:size-part], 2*k+last
	little := make([]byte, 24)
	for i, v := range []uint64{8, 0, uint64(mark)} {
		binary.LittleEndian.PutUint64(little[8*i:], v)
	}
	n := len(piece)
	m := map[string][]byte{
		"none": nil, "noughts": make([]byte, size), "ones": bytes.Repeat([]byte{0xFF}, size),
		"little end first": sector(little, n), "numbers of four bytes": sector([]byte{0, 0, 0, 8, 0, 0, 0, 0, 0, 0, 0, byte(mark)}, n),
		"numbers of a byte": sector([]byte{8, 0, byte(mark)}, n), "the mark second": sector(head(8, mark+8, 0), n), "two numbers": sector(right[:16], n),
		"its piece alone": piece, "a byte ahead": append([]byte{0}, right...)[:min(size, len(right)+1)],
		"the numbers behind the piece": append(slices.Clone(piece), numbers...), "no epoch": right[8:], "an epoch of seven bytes": right[1:],
	}
	for _, epoch := range append([]int{0, 1, 2, 6, 7, 9, 10, 8 + 256, 8 + 1<<32, 8 - 1<<40, -8, top, top - 1}, far...) {
		if k > 0 || epoch != 2 && epoch != 6 && epoch != 10 && epoch != 8+256 && epoch != 8+1<<32 && epoch != top {
			m[fmt.Sprint("the epoch ", epoch)] = sector(head(epoch, 0, mark), n)
		}
	}
	for _, zero := range append([]int{1, 2, 8, 256, 1 << 32, 1 << 56}, far...) {
		m[fmt.Sprint("the second number ", zero)] = sector(head(8, zero, mark), n)
	}
	for _, other := range append([]int{0, 1, 2, 3, 4, 5, 6, 7, mark + 256, mark + 1<<32, mark - 1<<62, -mark}, far...) {
		if other/2 != k || other < 0 {
			m[fmt.Sprint("the mark ", other)] = sector(head(8, 0, other), n)
		}
	}
	for n := range 24 {
		m[fmt.Sprintf("%d bytes of the numbers", n)] = right[:n]
	}
	if k < 2 {
		for n := range part {
			m[fmt.Sprintf("a middle piece of %d bytes", n)] = sector(numbers, n)
		}
	} else {
		m["a middle one in place of the last one"] = sector(head(8, 0, 2*k), n)
	}
	m["no piece, and not the last one"] = head(8, 0, 2*k)
	for at := 8; at < 24; at++ { // with bits of the first number inverted it may be another epoch's
		for bit := range 8 {
			if at == 23 && bit == 0 { // a last piece, or none
				continue
			}
			b := slices.Clone(right)
			b[at] ^= 1 << bit
			m[fmt.Sprintf("byte %d, bit %d", at, bit)] = b
		}
	}
	return m
}

// P8.2: a sector that is not the expected one leaves its slot incomplete, durable or in the cache, with power and without it.
func TestLoadOverForeignSectors(t *testing.T) {
	p, q := row(23, 90), row(23, 45)
	for k, right := range laid(8, p) {
		for name, b := range foreign(k, right) {
			for _, both := range []bool{false, true} {
				d := disk(t, 10)
				want, epoch := []byte(nil), 0
				if both {
					want, epoch = q, 7
					save(t, d, 1, 4, 7, q)
				}
				save(t, d, 1, 4, 8, p)
				loads(t, "as it was", d, 1, 4, p, 8)
				what := fmt.Sprintf("piece %d: %s, the other slot %v", k, name, both)
				if e := d.Write(1+k, b); e != api.OK {
					t.Fatalf("%s: Write of %d bytes: %d", what, len(b), e)
				}
				loads(t, what+", in the cache", d, 1, 4, want, epoch)
				lay(t, d, 1+k, b)
				inAnyPower(t, what, d, 1, 4, want, epoch)
				if r, j := spelt(d, 1, 4); !bytes.Equal(r, want) || j != epoch {
					t.Errorf("%s: by the words %s, %d", what, short(r), j)
				}
			}
		}
	}
}

// P8.2: another epoch in a slot is loaded only if it is that slot's, and an epoch at all.
func TestEpochsOfTheOtherSlot(t *testing.T) {
	for _, epoch := range append(append([]int{0, 3, 4, top + 2, -3, -4}, far...), epochs...) {
		for slot := range 2 {
			for _, n := range []int{0, 1, 40, 41, 120} {
				for _, both := range []bool{false, true} {
					d := disk(t, 8)
					want, now := []byte(nil), 0
					if both {
						want, now = row(24, 60), 5-slot // 5 in slot 1, and 4 in slot 0
						save(t, d, 1, 3, now, want)
					}
					p := row(25, n)
					for k, b := range laid(epoch, p) {
						lay(t, d, 1+3*slot+k, b)
					}
					if epoch >= 1 && epoch <= top && epoch%2 == slot && epoch > now {
						want, now = p, epoch
					}
					inAnyPower(t, fmt.Sprintf("the epoch %d in slot %d, %d bytes, the other one %v", epoch, slot, n, both), d, 1, 3, want, now)
				}
			}
		}
	}
}

// P8.2: a torn sector leaves its slot incomplete if it is one of the pieces', and changes nothing if it is not.
func TestLoadOverATornSector(t *testing.T) {
	for _, n := range lengths {
		for _, m := range lengths {
			p, q := row(26, n), row(27, m)
			for torn := range 10 {
				d := disk(t, 10)
				save(t, d, 1, 4, 8, p)
				save(t, d, 1, 4, 9, q)
				tear(t, d, torn)
				want, epoch := q, 9
				if torn >= 5 && torn < 5+len(laid(9, q)) {
					want, epoch = p, 8
				}
				inAnyPower(t, fmt.Sprintf("%d and %d bytes, sector %d torn", n, m, torn), d, 1, 4, want, epoch)
				save(t, d, 1, 4, epoch+1, row(28, 40))
				inAnyPower(t, "the next one", d, 1, 4, row(28, 40), epoch+1)
			}
		}
	}
}

// P8.2: a slot without a last piece is not complete, whatever follows: nothing, the other slot, the beginning once more.
func TestSlotWithoutALastPiece(t *testing.T) {
	for n := 1; n <= 4; n++ {
		for pieces := 1; pieces <= n+2; pieces++ {
			whole := laid(8, row(29, 40*pieces+10))
			for behind := range 3 {
				d := disk(t, 2*n+3)
				if behind == 1 {
					save(t, d, 1, n, 5, row(29, 40*n))
				}
				for k := range n {
					b := whole[k%pieces]
					if k >= pieces && behind == 0 {
						break
					}
					lay(t, d, 1+k, b)
				}
				if behind == 2 && pieces >= n { // the record goes on into the other slot
					for k := n; k < min(2*n, len(whole)); k++ {
						lay(t, d, 1+k, whole[k])
					}
				}
				want, epoch := []byte(nil), 0
				if behind == 1 {
					want, epoch = row(29, 40*n), 5
				}
				inAnyPower(t, fmt.Sprintf("%d of %d pieces, %d sectors, behind them %d", min(n, pieces), pieces+1, n, behind), d, 1, n, want, epoch)
			}
		}
	}
}

// P8.2: a last piece of each length completes its slot; what follows is not examined.
func TestEachLastPiece(t *testing.T) {
	for slot := range 2 {
		for k := range 4 {
			for n := range part + 1 {
				for _, behind := range [][]byte{nil, row(30, size), head(8+slot, 0, 2*k+2), head(8+slot, 0, 2*k+3), head(8+slot, 0, 1), head(9-slot, 0, 1)} {
					d := disk(t, 12)
					p := row(31, k*part+n)
					for i := range k {
						lay(t, d, 1+5*slot+i, append(head(8+slot, 0, 2*i), p[i*part:(i+1)*part]...))
					}
					lay(t, d, 1+5*slot+k, append(head(8+slot, 0, 2*k+1), p[k*part:]...))
					lay(t, d, 1+5*slot+k+1, behind)
					inAnyPower(t, fmt.Sprintf("slot %d, a last piece of %d bytes behind %d", slot, n, k), d, 1, 5, p, 8+slot)
				}
			}
		}
	}
}

// endless lays whole pieces of p and, if they are not more than the slot has room for, an empty piece with a mark behind them.
func endless(t *testing.T, d *sector.Disk, first, epoch, k, mark int, p []byte) {
	t.Helper()
	for i := range k {
		lay(t, d, first+i, append(head(epoch, 0, 2*i), p[i*part:(i+1)*part]...))
	}
	lay(t, d, first+k, head(epoch, 0, mark))
}

// P8.2: no number of bytes is asked of a last piece: one without any, behind whole ones, completes its slot.
func TestEmptyLastPieceBehindWholeOnes(t *testing.T) {
	for n := 1; n <= 4; n++ {
		for k := 1; k <= n; k++ {
			for slot := range 2 {
				for _, other := range []int{0, 3 - slot, 5 - slot, 1001 - slot} { // none, or one that is lesser or greater
					p, q := row(51, k*part), row(52, 9)
					d := disk(t, 2*n+3)
					if other > 0 {
						save(t, d, 1, n, other, q)
					}
					epoch := 4 + slot
					want, greatest := p, epoch
					if k == n { // the last piece lies outside the slot
						want, greatest = nil, 0
					}
					if other > greatest && (k < n || slot == 1) {
						want, greatest = q, other
					}
					endless(t, d, 1+slot*n, epoch, k, 2*k+1, p)
					inAnyPower(t, fmt.Sprintf("%d sectors, %d whole pieces in slot %d, the other epoch %d", n, k, slot, other), d, 1, n, want, greatest)
				}
			}
		}
	}
}

// P8.2: an empty piece that is not the last one, or not the next one, or of another epoch, completes nothing.
func TestEmptyPieceOfAnotherPlace(t *testing.T) {
	p, q := row(53, 3*part), []byte{9}
	for k := 1; k <= 3; k++ {
		for mark := range 10 {
			d := disk(t, 10)
			save(t, d, 1, 4, 4, q)
			endless(t, d, 5, 5, k, mark, p)
			want, epoch := q, 4
			if mark == 2*k+1 {
				want, epoch = p[:k*part], 5
			}
			inAnyPower(t, fmt.Sprintf("the mark %d behind %d pieces", mark, k), d, 1, 4, want, epoch)
		}
		for _, foreign := range [][]byte{head(3, 0, 2*k+1), head(7, 0, 2*k+1), head(4, 0, 2*k+1), head(5, 1, 2*k+1), head(5, 0, 2*k+1)[:size-part-1], nil} {
			d := disk(t, 10)
			save(t, d, 1, 4, 4, q)
			endless(t, d, 5, 5, k, 2*k+1, p)
			lay(t, d, 5+k, foreign)
			inAnyPower(t, fmt.Sprintf("%X behind %d pieces", foreign, k), d, 1, 4, q, 4)
		}
		d := disk(t, 10)
		save(t, d, 1, 4, 4, q)
		endless(t, d, 5, 5, k, 2*k+1, p)
		tear(t, d, 5+k)
		inAnyPower(t, fmt.Sprintf("a torn sector behind %d pieces", k), d, 1, 4, q, 4)
	}
}

// P8.2: a piece ahead of an empty last one must have all of its bytes.
func TestShortPieceAheadOfAnEmptyOne(t *testing.T) {
	for k := 1; k <= 3; k++ {
		for at := range k {
			for n := range part {
				d := disk(t, 10)
				save(t, d, 1, 4, 4, row(55, 9))
				endless(t, d, 5, 5, k, 2*k+1, row(56, k*part))
				lay(t, d, 5+at, append(head(5, 0, 2*at), row(57, n)...))
				inAnyPower(t, fmt.Sprintf("%d bytes in piece %d of %d", n, at, k), d, 1, 4, row(55, 9), 4)
			}
		}
	}
}

// P8.3 and P8.4: a checkpoint whose last piece is empty stays until another one is saved, and is not mixed with it.
func TestSaveBehindAnEmptyLastPiece(t *testing.T) {
	for k := 1; k <= 3; k++ {
		for _, n := range lengths {
			for _, a := range attempts(n) {
				d := disk(t, 10)
				p := row(58, k*part)
				endless(t, d, 1, 8, k, 2*k+1, p)
				now, epoch := try(t, d, a, 59, p, 8)
				save(t, d, 1, 4, epoch+1, row(60, n))
				inAnyPower(t, fmt.Sprintf("%d whole pieces, %d bytes, now epoch %d of %d bytes", k, n, epoch, len(now)), d, 1, 4, row(60, n), epoch+1)
			}
		}
	}
}

// P8.2: a piece of more bytes than there may be has no sector.
func TestNoSectorForALongerPiece(t *testing.T) {
	d := disk(t, 4)
	for _, mark := range []int{0, 1} {
		for n := part + 1; n < part+10; n++ {
			answers(t, "Write of a longer piece", d.Write(0, append(head(8, 0, mark), row(32, n)...)), api.ErrLong)
			inAnyPower(t, "refused", d, 0, 2, nil, 0)
		}
	}
}

// palette is sectors for slots of the area: right ones and wrong ones for slot 0 and for slot 1; a nil one is torn.
func palette() [][]byte {
	piece := row(33, part)
	sector := func(epoch, zero, mark, n int) []byte { return append(head(epoch, zero, mark), piece[:n]...) }
	return [][]byte{
		nil, {}, sector(8, 0, 1, 0), sector(8, 0, 0, part), sector(8, 0, 3, part), sector(8, 0, 3, 0), sector(8, 0, 2, part), sector(6, 0, 1, 7),
		sector(6, 0, 0, part), sector(6, 0, 3, 3), sector(7, 0, 1, part), sector(7, 0, 0, part), sector(7, 0, 3, 9), sector(9, 0, 1, 1), sector(9, 0, 0, part-1), sector(8, 1, 1, 5),
	}
}

// P8.2, held against the chapter's words: every area of twice two sectors out of the palette, as one of that size, and as one of other sizes.
func TestLoadFollowsTheWords(t *testing.T) {
	l := palette()
	k := len(l)
	for at := range k * k * k * k {
		d := disk(t, 6)
		var become []int
		for i, x := range []int{at % k, at / k % k, at / k / k % k, at / k / k / k} {
			d.Write(1+i, l[x])
			fate := 1
			if l[x] == nil {
				fate = 2
			}
			become = append(become, fate)
		}
		d.Crash(become)
		for _, x := range [][2]int{{1, 2}, {0, 2}, {1, 1}, {0, 3}, {3, 1}} {
			p, j, e := check.Load(d, x[0], x[1])
			want, epoch := spelt(d, x[0], x[1])
			if !bytes.Equal(p, want) || j != epoch || (e == api.OK) != (epoch > 0) {
				t.Fatalf("%s: Load %v: %s, %d, %d; by the words %s, %d", sectors(d), x, short(p), j, e, short(want), epoch)
			}
		}
	}
}

// P8.2, held against the chapter's words: larger areas, of which some sectors are spoilt.
func TestLoadOfSpoiltSectors(t *testing.T) {
	for seed := range uint64(6000) {
		r := rand.New(rand.NewPCG(seed, 34))
		n := 1 + r.IntN(12)
		at := r.IntN(3)
		d := disk(t, at+2*n+1)
		epoch := epochs[r.IntN(len(epochs)-2)]
		for range 1 + r.IntN(4) {
			save(t, d, at, n, epoch, row(r.Uint64(), r.IntN(n*part+1)))
			epoch++
		}
		for range 1 + r.IntN(3) {
			i := at + r.IntN(2*n)
			b, _ := d.Read(i)
			switch r.IntN(5) {
			case 0:
				tear(t, d, i)
				continue
			case 1:
				b = b[:r.IntN(len(b)+1)]
			case 2:
				b, _ = d.Read(r.IntN(d.Len()))
			case 3:
				b = append(b, row(seed, size-len(b))...)[:len(b)+r.IntN(size-len(b)+1)]
			default:
				for k := range b {
					if r.IntN(30) == 0 {
						b[k] ^= 1 << r.IntN(8)
					}
				}
			}
			lay(t, d, i, b)
		}
		want, k := spelt(d, at, n)
		inAnyPower(t, fmt.Sprint("seed ", seed), d, at, n, want, k)
	}
}

// P8.2: sectors outside the area change nothing, even if they would be a checkpoint's there.
func TestSectorsOutsideTheArea(t *testing.T) {
	for at := range 4 {
		for n := 1; n <= 3; n++ {
			for _, outside := range [][]byte{row(35, size), laid(100, row(35, 9))[0], laid(101, nil)[0], laid(100, row(35, 80))[0], laid(9, row(35, 80))[1]} {
				for _, torn := range []bool{false, true} {
					d := disk(t, at+2*n+4)
					for i := range d.Len() {
						if i >= at && i < at+2*n {
							continue
						}
						if lay(t, d, i, outside); torn {
							tear(t, d, i)
						}
					}
					inAnyPower(t, "nothing inside", d, at, n, nil, 0)
					save(t, d, at, n, 8, row(36, n*part))
					inAnyPower(t, "one inside", d, at, n, row(36, n*part), 8)
					save(t, d, at, n, 9, row(37, n*part-1))
					inAnyPower(t, "two inside", d, at, n, row(37, n*part-1), 9)
					for i := range d.Len() {
						b, e := d.Read(i)
						if (i < at || i >= at+2*n) && ((e == api.ErrTorn) != torn || !torn && !bytes.Equal(b, outside)) {
							t.Errorf("at %d, %d sectors: sector %d: %X, %d", at, n, i, b, e)
						}
					}
				}
			}
		}
	}
}

// P8.1 and P8.2: a checkpoint of an area is found in another one only where the two have its slot in common.
func TestAreasOfOtherSizes(t *testing.T) {
	for _, epoch := range []int{8, 9} {
		for at := range 3 {
			for n := 1; n <= 4; n++ {
				for length := 0; length <= n*part; length += 20 {
					d := disk(t, 12)
					p := row(38, length)
					save(t, d, at, n, epoch, p)
					for from := range 12 {
						for m := 1; from+2*m <= 12; m++ {
							want, k := []byte(nil), 0
							if from+epoch%2*m == at+epoch%2*n && len(laid(1, p)) <= m {
								want, k = p, epoch
							}
							loads(t, fmt.Sprintf("saved at %d, %d sectors, %d bytes", at, n, length), d, from, m, want, k)
						}
					}
				}
			}
		}
	}
}

// P8.1 and P8.2: the greatest area, with as many bytes as there may be, and with one more.
func TestGreatestArea(t *testing.T) {
	n := most / 2
	d := disk(t, most)
	p, q := row(39, n*part), row(40, n*part)
	answers(t, "one byte more", check.Save(d, 0, n, 1, append(slices.Clone(p), 1)), api.ErrLong)
	answers(t, "twice as many", check.Save(d, 0, n, 1, row(41, 2*n*part)), api.ErrLong)
	answers(t, "a sector more", check.Save(d, 1, n, 1, p), api.ErrRange)
	inAnyPower(t, "refused", d, 0, n, nil, 0)
	save(t, d, 0, n, top-1, p)
	inAnyPower(t, "one", d, 0, n, p, top-1)
	save(t, d, 0, n, top, q)
	inAnyPower(t, "the last epoch of all", d, 0, n, q, top)
	answers(t, "an epoch more", check.Save(d, 0, n, top+1, p), api.ErrRange)
	inAnyPower(t, "refused", d, 0, n, q, top)
	tear(t, d, n-1)
	inAnyPower(t, "its last piece torn", d, 0, n, p, top-1)
	tear(t, d, most-1)
	inAnyPower(t, "both last pieces torn", d, 0, n, nil, 0)
}

// P8.4: the sectors of an earlier checkpoint of the slot do not complete a later one, nor the other way round, whatever becomes of each of them.
func TestEpochsAreNotMixed(t *testing.T) {
	for _, early := range lengths {
		for _, late := range lengths {
			a, b := laid(6, row(42, early)), laid(8, row(43, late))
			for choice := range 1 << max(len(a), len(b)) {
				d := disk(t, 8)
				for k := range 4 {
					l := a
					if choice>>k&1 == 1 {
						l = b
					}
					if k < len(l) {
						lay(t, d, k, l[k])
					}
				}
				want, epoch := []byte(nil), 0
				switch {
				case choice&(1<<len(a)-1) == 0:
					want, epoch = row(42, early), 6
				case choice&(1<<len(b)-1) == 1<<len(b)-1:
					want, epoch = row(43, late), 8
				}
				inAnyPower(t, fmt.Sprintf("%d bytes, then %d, choice %b", early, late, choice), d, 0, 4, want, epoch)
			}
		}
	}
}

// place is an area of a disk, with what is loaded there.
type place struct {
	at, n, epoch int
	p            []byte
}

// P8.1 to P8.4: long scripts with three areas on one disk, whose power fails at any time, during a Save or not.
func TestLongScripts(t *testing.T) {
	for seed := range uint64(3000) {
		r := rand.New(rand.NewPCG(seed, 44))
		d := disk(t, 30)
		places := []*place{{at: 0, n: 1 + r.IntN(4)}, {at: 9, n: 5}, {at: 20, n: 5}}
		for range 40 {
			x := places[r.IntN(3)]
			p := row(r.Uint64(), lengths[r.IntN(len(lengths))]+r.IntN(2)*80)
			what := fmt.Sprintf("seed %d, at %d, epoch %d, %d bytes", seed, x.at, x.epoch+1, len(p))
			if r.IntN(3) == 0 {
				d.Arm(r.IntN(9))
			}
			e := check.Save(d, x.at, x.n, x.epoch+1, p)
			switch {
			case len(p) > x.n*part:
				answers(t, what, e, api.ErrLong)
			case e == api.OK:
				x.p, x.epoch = p, x.epoch+1
			default:
				answers(t, what, e, api.ErrDown)
				l := make([]int, len(d.Dirty()))
				for i := range l {
					l[i] = []int{1, 1, 0, 2, -1}[r.IntN(5)]
				}
				whole := slices.Equal(d.Dirty(), []int{x.at + (x.epoch+1)%2*x.n}) && l[0] == 1 && len(laid(1, p)) == 1
				d.Crash(l)
				if got, k, _ := check.Load(d, x.at, x.n); k == x.epoch+1 && bytes.Equal(got, p) {
					x.p, x.epoch = p, k
				} else if whole {
					t.Errorf("%s: all of it is durable, and it is not loaded", what)
				}
			}
			for _, y := range places {
				loads(t, what, d, y.at, y.n, y.p, y.epoch)
			}
			if r.IntN(10) == 0 {
				d.Crash(nil)
			}
		}
	}
}

// R4: the same calls have the same results.
func TestSameCallsSameResults(t *testing.T) {
	trace := func() string {
		r := rand.New(rand.NewPCG(45, 45))
		d := disk(t, 24)
		var s strings.Builder
		for range 80 {
			if r.IntN(5) == 0 {
				d.Arm(r.IntN(9))
			}
			at, n := r.IntN(6)-1, r.IntN(10)
			e := check.Save(d, at, n, r.IntN(20), row(r.Uint64(), r.IntN(300)))
			p, k, f := check.Load(d, at, n)
			fmt.Fprint(&s, e, p, k, f, seen(d))
			if d.Down() {
				d.Crash([]int{1, 0, 2})
			}
		}
		return s.String()
	}
	first := trace()
	for range 3 {
		if trace() != first {
			t.Fatal("another answer the second time")
		}
	}
}

// spare is b with memory behind it that nothing may write into.
func spare(b []byte) []byte {
	return append(bytes.Clone(b), bytes.Repeat([]byte{0xAA}, 70)...)[:len(b)]
}

// untouched reports whether b, with all of its memory, is still what spare made of want.
func untouched(b, want []byte) bool {
	return bytes.Equal(b, want) && bytes.Equal(b[len(b):len(b)+70], bytes.Repeat([]byte{0xAA}, 70))
}

// fill writes into all the memory that b reaches.
func fill(b []byte, v byte) {
	b = b[:cap(b)]
	for i := range b {
		b[i] = v
	}
}

// R3: Save neither changes nor keeps its bytes, whether it is done, refused or interrupted.
func TestMemoryOfSave(t *testing.T) {
	for _, n := range append([]int{200, 201, 1000}, lengths...) {
		for left := -1; left < 8; left++ {
			for _, epoch := range []int{0, 4, 5} {
				d := disk(t, 12)
				save(t, d, 1, 5, 3, []byte("old"))
				p := spare(row(46, n))
				d.Arm(left)
				e := check.Save(d, 1, 5, epoch, p)
				what := fmt.Sprintf("Save of %d bytes, epoch %d, %d operations left", n, epoch, left)
				if !untouched(p, row(46, n)) {
					t.Errorf("%s changed its argument or the memory behind it", what)
				}
				before := seen(d)
				fill(p, 0x66)
				if seen(d) != before {
					t.Errorf("%s: the disk hangs on its argument", what)
				}
				if e == api.OK {
					loads(t, what, d, 1, 5, row(46, n), epoch)
				}
			}
		}
	}
}

// R3: a Save does not read what lies behind its argument.
func TestSaveDoesNotReadBehindItsArgument(t *testing.T) {
	whole := row(47, 300)
	for n := range 161 {
		d := disk(t, 8)
		save(t, d, 0, 4, 2, whole[:n])
		loads(t, fmt.Sprintf("%d bytes of more", n), d, 0, 4, bytes.Clone(whole[:n]), 2)
	}
}

// R3: what Load answers shares nothing with the disk or with another answer.
func TestMemoryOfLoad(t *testing.T) {
	for _, n := range lengths {
		for epoch := 1; epoch <= 2; epoch++ {
			d := disk(t, 8)
			save(t, d, 0, 4, epoch, row(48, n))
			before := seen(d)
			first, _, _ := check.Load(d, 0, 4)
			second, _, _ := check.Load(d, 0, 4)
			fill(first, 0x55)
			if !bytes.Equal(second, row(48, n)) {
				t.Errorf("%d bytes: Load's answer shares memory with another one", n)
			}
			if seen(d) != before {
				t.Errorf("%d bytes: Load's answer shares memory with the disk", n)
			}
			loads(t, "an answer overwritten", d, 0, 4, row(48, n), epoch)
			save(t, d, 0, 4, epoch+2, row(49, 160))
			if !bytes.Equal(second, row(48, n)) {
				t.Errorf("%d bytes: Load's answer hangs on a later Save", n)
			}
		}
	}
}

// R3 and R4: nothing is kept from call to call but what the disk holds: two disks have nothing in common.
func TestTwoDisks(t *testing.T) {
	c, d := disk(t, 8), disk(t, 9)
	save(t, c, 0, 4, 8, []byte("one"))
	loads(t, "the other disk", d, 0, 4, nil, 0)
	save(t, d, 0, 4, 5, []byte("two"))
	fail(c)
	answers(t, "the one without power", check.Save(c, 0, 4, 9, nil), api.ErrDown)
	save(t, d, 0, 4, 6, row(50, 120))
	loads(t, "the first disk", c, 0, 4, []byte("one"), 8)
	loads(t, "the other disk", d, 0, 4, row(50, 120), 6)
}
