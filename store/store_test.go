package store_test

import (
	"bytes"
	"encoding/binary"
	"fmt"
	"math"
	"math/big"
	"math/rand/v2"
	"slices"
	"strings"
	"testing"

	"glebe/api"
	"glebe/check"
	"glebe/journal"
	"glebe/sector"
	"glebe/store"
)

// The document's numbers, held against api's by TestLimits.
const (
	longest = 32768
	part    = 40
	size    = 64
	most    = 16384
	top     = 1 << 40
)

// The chapter's functions, with these very signatures.
var (
	_ func(*sector.Disk, int) (*store.Store, []byte, [][]byte, api.Errno) = store.Open
	_ func(*store.Store, []byte) api.Errno                                = (*store.Store).Renew
	_ func(*store.Store, []byte) api.Errno                                = (*store.Store).Append
	_ func(*store.Store) int                                              = (*store.Store).Epoch
	_ func(*store.Store) int                                              = (*store.Store).Count
)

// far are numbers that are out of their place wherever they stand.
var far = []int{math.MinInt, math.MinInt + 1, -top, -1 << 32, -2, -1, top + 1, math.MaxInt/2 - 1, math.MaxInt / 2, math.MaxInt/2 + 1, math.MaxInt - 1, math.MaxInt}

// epochs are all sorts of them, the least and the greatest among them.
var epochs = []int{1, 2, 7, 255, 256, 1 << 16, 1<<32 - 1, 1 << 32, top - 1, top}

// lengths are the edges of byte strings that a slot or an area of a few sectors has room for.
var lengths = []int{0, 1, 39, 40, 41, 80, 81, 120, 121, 160}

// row is the same n bytes at every run: what a test finds must be found again.
func row(seed uint64, n int) []byte {
	r := rand.New(rand.NewPCG(seed, uint64(n)))
	b := make([]byte, n)
	for i := range b {
		b[i] = byte(r.Uint32())
	}
	return b
}

func disk(t *testing.T, n int) *sector.Disk {
	t.Helper()
	d, e := sector.New(n)
	if e != api.OK {
		t.Fatalf("a disk of %d sectors: %d", n, e)
	}
	return d
}

// lay writes a sector and flushes it.
func lay(t *testing.T, d *sector.Disk, i int, b []byte) {
	t.Helper()
	if e := d.Write(i, b); e != api.OK {
		t.Fatalf("Write of %d bytes to sector %d: %d", len(b), i, e)
	}
	if e := d.Flush(); e != api.OK {
		t.Fatalf("Flush: %d", e)
	}
}

// tear tears a sector.
func tear(t *testing.T, d *sector.Disk, i int) {
	t.Helper()
	if e := d.Write(i, nil); e != api.OK {
		t.Fatalf("Write to sector %d: %d", i, e)
	}
	d.Crash([]int{2})
}

// fail makes the power fail; what is in the cache stays there.
func fail(d *sector.Disk) {
	d.Arm(0)
	d.Flush()
}

// save lays a checkpoint of any epoch, as only layer 8 can.
func save(t *testing.T, d *sector.Disk, slot, epoch int, p []byte) {
	t.Helper()
	if e := check.Save(d, 0, slot, epoch, p); e != api.OK {
		t.Fatalf("Save, slot %d, epoch %d, %d bytes: %d", slot, epoch, len(p), e)
	}
}

// note lays records of any epoch, as only layer 7 can.
func note(t *testing.T, d *sector.Disk, slot, epoch int, records ...[]byte) {
	t.Helper()
	j, e := journal.New(d, 2*slot, d.Len()-2*slot, epoch)
	if e != api.OK {
		t.Fatalf("New, slot %d, epoch %d: %d", slot, epoch, e)
	}
	for _, p := range records {
		if e := j.Append(p); e != api.OK {
			t.Fatalf("Append of %d bytes: %d", len(p), e)
		}
	}
}

// answers holds the error of a call against the one that is asked for.
func answers(t *testing.T, what string, got, want api.Errno) {
	t.Helper()
	if got != want {
		t.Errorf("%s: %d, want %d", what, got, want)
	}
}

func same(a, b [][]byte) bool { return slices.EqualFunc(a, b, bytes.Equal) }

// short tells records by their lengths and their first bytes.
func short(l ...[]byte) string {
	var s strings.Builder
	for _, p := range l {
		fmt.Fprintf(&s, "%d:%X ", len(p), p[:min(len(p), 4)])
	}
	return s.String()
}

// opens opens a store and holds what Open answers against what is asked for.
func opens(t *testing.T, what string, d *sector.Disk, slot, epoch int, want []byte, records ...[]byte) *store.Store {
	t.Helper()
	s, p, l, e := store.Open(d, slot)
	if s == nil || e != api.OK {
		t.Fatalf("%s: Open with the slot %d: %v, %d", what, slot, s, e)
	}
	if !bytes.Equal(p, want) || !same(l, records) || s.Epoch() != epoch || s.Count() != 0 {
		t.Fatalf("%s: Open: %s, %s, epoch %d, count %d; want %s, %s, %d, 0", what, short(p), short(l...), s.Epoch(), s.Count(), short(want), short(records...), epoch)
	}
	return s
}

// head is the bytes ahead of a piece, by the words of layers 7 and 8.
func head(epoch, number, mark int) []byte {
	var b []byte
	for _, v := range []int{epoch, number, mark} {
		b = binary.BigEndian.AppendUint64(b, uint64(v))
	}
	return b
}

// laid is the sectors of a record, or of a checkpoint, whose number is 0.
func laid(epoch, number int, p []byte) [][]byte {
	var l [][]byte
	for at := 0; at == 0 || at < len(p); at += part {
		end, mark := min(at+part, len(p)), 2*(at/part)
		if end == len(p) {
			mark++
		}
		l = append(l, append(head(epoch, number, mark), p[at:end]...))
	}
	return l
}

// pieces is the number of sectors of so many bytes.
func pieces(n int) int { return len(laid(1, 1, make([]byte, n))) }

// step is an operation on a disk: a write of a sector, or a flush.
type step struct {
	flush  bool
	sector int
	bytes  []byte
}

// renewing is the operations of a Renew, by the words of layers 8 and 9.
func renewing(slot, epoch int, p []byte) []step {
	first, sectors := epoch%2*slot, laid(epoch, 0, p)
	var l []step
	for k, b := range sectors[1:] {
		l = append(l, step{sector: first + 1 + k, bytes: b})
	}
	if len(l) > 0 {
		l = append(l, step{flush: true})
	}
	return append(l, step{sector: first, bytes: sectors[0]}, step{flush: true})
}

// appending is the operations of an Append, by the words of layers 7 and 9.
func appending(at, epoch, number int, p []byte) []step {
	var l []step
	for k, b := range laid(epoch, number, p) {
		l = append(l, step{sector: at + k, bytes: b})
	}
	return append(l, step{flush: true})
}

// slotted is the bytes and the epoch of a slot by layer 8's words; the epoch 0 if it is not complete.
func slotted(d *sector.Disk, first, n, slot int) ([]byte, int) {
	var p []byte
	epoch := 0
	for k := range n {
		b, e := d.Read(first + k)
		if e != api.OK || len(b) < size-part {
			return nil, 0
		}
		if k == 0 {
			epoch = int(binary.BigEndian.Uint64(b))
		}
		if epoch < 1 || epoch > top || epoch%2 != slot {
			return nil, 0
		}
		p = append(p, b[size-part:]...)
		switch {
		case bytes.HasPrefix(b, head(epoch, 0, 2*k+1)):
			return p, epoch
		case !bytes.HasPrefix(b, head(epoch, 0, 2*k)) || len(b) != size:
			return nil, 0
		}
	}
	return nil, 0
}

// record is the record of that number that starts at a sector by layer 7's words, and its number of sectors: 0 if there is none.
func record(d *sector.Disk, at, epoch, number int) ([]byte, int) {
	var p []byte
	var found [][]byte
	for i := at; i < d.Len() && len(p) <= longest; i++ {
		b, e := d.Read(i)
		if e != api.OK || len(b) < size-part {
			break
		}
		p, found = append(p, b[size-part:]...), append(found, b)
		if len(p) <= longest && same(laid(epoch, number, p), found) {
			return p, len(found)
		}
	}
	return nil, 0
}

// spelt is what Open must answer by the chapter's words: the checkpoint, its epoch, the records.
func spelt(d *sector.Disk, slot int) ([]byte, int, [][]byte) {
	p, epoch := slotted(d, 0, slot, 0)
	if q, k := slotted(d, slot, slot, 1); k > epoch {
		p, epoch = q, k
	}
	var l [][]byte
	for at := 2 * slot; epoch > 0; {
		q, k := record(d, at, epoch, len(l)+1)
		if k == 0 {
			break
		}
		l, at = append(l, q), at+k
	}
	return p, epoch, l
}

// plain is a store by the chapter's words, on a disk of its own.
type plain struct {
	d            *sector.Disk
	slot, epoch  int
	ready, dead  bool
	next, number int // the sector behind the records, and how many these are
}

func (w *plain) renew(p []byte) api.Errno {
	switch {
	case w.dead:
		return api.ErrDown
	case w.epoch == top:
		return api.ErrRange
	case pieces(len(p)) > w.slot:
		return api.ErrLong
	}
	e := w.run(renewing(w.slot, w.epoch+1, p))
	if e == api.OK {
		w.epoch, w.ready, w.next, w.number = w.epoch+1, true, 2*w.slot, 0
	}
	return e
}

func (w *plain) append(p []byte) api.Errno {
	switch {
	case w.dead:
		return api.ErrDown
	case !w.ready:
		return api.ErrState
	case len(p) > longest:
		return api.ErrLong
	case pieces(len(p)) > w.d.Len()-w.next:
		return api.ErrFull
	}
	e := w.run(appending(w.next, w.epoch, w.number+1, p))
	if e == api.OK {
		w.next, w.number = w.next+pieces(len(p)), w.number+1
	}
	return e
}

// run performs operations until the power fails.
func (w *plain) run(l []step) api.Errno {
	for _, x := range l {
		e := api.OK
		if x.flush {
			e = w.d.Flush()
		} else {
			e = w.d.Write(x.sector, x.bytes)
		}
		if e != api.OK {
			w.dead = true
			return e
		}
	}
	return api.OK
}

// pair is a store and one by the chapter's words, each on a disk of its own, with which the same is done.
type pair struct {
	s *store.Store
	d *sector.Disk
	w *plain
}

// over opens both on two disks of the same content.
func over(t *testing.T, slot int, fresh func() *sector.Disk) *pair {
	t.Helper()
	x := &pair{d: fresh(), w: &plain{d: fresh(), slot: slot}}
	x.reopen(t, "at first")
	return x
}

// reopen opens both, and holds what Open answers against the chapter's words.
func (x *pair) reopen(t *testing.T, what string) {
	t.Helper()
	p, epoch, l := spelt(x.w.d, x.w.slot)
	x.w = &plain{d: x.w.d, slot: x.w.slot, epoch: epoch}
	x.s = opens(t, what, x.d, x.w.slot, epoch, p, l...)
	x.compare(t, what)
}

func (x *pair) renew(t *testing.T, what string, p []byte) api.Errno {
	t.Helper()
	what = fmt.Sprintf("%s, Renew of %d bytes", what, len(p))
	want := x.w.renew(p)
	answers(t, what, x.s.Renew(p), want)
	x.compare(t, what)
	return want
}

func (x *pair) append(t *testing.T, what string, p []byte) api.Errno {
	t.Helper()
	what = fmt.Sprintf("%s, Append of %d bytes", what, len(p))
	want := x.w.append(p)
	answers(t, what, x.s.Append(p), want)
	x.compare(t, what)
	return want
}

func (x *pair) arm(n int) {
	x.d.Arm(n)
	x.w.d.Arm(n)
}

func (x *pair) fail() {
	fail(x.d)
	fail(x.w.d)
}

// crash decides what becomes of what was not flushed; both must be opened anew.
func (x *pair) crash(l []int) {
	x.d.Crash(l)
	x.w.d.Crash(l)
}

// compare holds all that can be asked of the store and its disk against the other one.
func (x *pair) compare(t *testing.T, what string) {
	t.Helper()
	if x.s.Epoch() != x.w.epoch || x.s.Count() != x.w.number {
		t.Fatalf("%s: Epoch %d, Count %d; want %d, %d", what, x.s.Epoch(), x.s.Count(), x.w.epoch, x.w.number)
	}
	if !alike(x.d, x.w.d) {
		t.Fatalf("%s: the disk is %s, want %s", what, seen(x.d), seen(x.w.d))
	}
}

// alike reports whether two disks answer the same.
func alike(a, b *sector.Disk) bool {
	if a.Len() != b.Len() || a.Down() != b.Down() || !slices.Equal(a.Dirty(), b.Dirty()) {
		return false
	}
	for i := range a.Len() {
		p, e := a.Read(i)
		q, f := b.Read(i)
		if e != f || !bytes.Equal(p, q) {
			return false
		}
	}
	return true
}

// sectors is what Read answers for each sector.
func sectors(d *sector.Disk) string {
	var s strings.Builder
	for i := range d.Len() {
		b, e := d.Read(i)
		fmt.Fprintf(&s, "%d:%X/%d ", i, b, e)
	}
	return s.String()
}

// seen is what can be read from a disk without changing it.
func seen(d *sector.Disk) string {
	return fmt.Sprint(d.Len(), " ", d.Down(), d.Dirty(), sectors(d))
}

// hidden is what only further calls show: the operations that are left, up to twenty, and the durable states beneath the cache.
func hidden(d *sector.Disk) string {
	n := 0
	for n < 20 && d.Write(0, nil) == api.OK {
		n++
	}
	d.Crash(nil)
	return fmt.Sprint(n, " ", sectors(d))
}

// fates are all lists of so many fates of a sector, torn in more than one way.
func fates(k int) [][]int {
	l := [][]int{nil}
	for range k {
		var longer [][]int
		for _, x := range l {
			for _, fate := range []int{0, 1, 2} {
				if fate == 2 && len(x)%2 == 1 {
					fate = -1
				}
				longer = append(longer, append(slices.Clone(x), fate))
			}
		}
		l = longer
	}
	return l
}

// filled is a disk whose sectors all have bytes that are no checkpoint's and no record's.
func filled(t *testing.T, n int) *sector.Disk {
	t.Helper()
	d := disk(t, n)
	for i := range n {
		d.Write(i, row(uint64(i%7), size))
	}
	d.Flush()
	return d
}

// states make disks of twelve sectors in all sorts of states; those that were used have checkpoints in slots of two sectors.
func states(t *testing.T) map[string]func() *sector.Disk {
	empty := func() *sector.Disk { return disk(t, 12) }
	used := func() *sector.Disk {
		d := empty()
		save(t, d, 2, 6, row(1, 50))
		save(t, d, 2, 7, row(1, 80))
		note(t, d, 2, 7, row(2, 9), nil, row(2, 90))
		lay(t, d, 10, row(3, size))
		return d
	}
	torn := func() *sector.Disk {
		d := used()
		tear(t, d, 2)
		tear(t, d, 5)
		return d
	}
	dirty := func() *sector.Disk {
		d := used()
		d.Write(6, row(3, 9))
		d.Write(0, nil)
		return d
	}
	down := func() *sector.Disk {
		d := dirty()
		fail(d)
		return d
	}
	armed := func(n int) func() *sector.Disk {
		return func() *sector.Disk {
			d := dirty()
			d.Arm(n)
			return d
		}
	}
	return map[string]func() *sector.Disk{
		"empty": empty, "used": used, "torn": torn, "dirty": dirty, "down": down, "filled": func() *sector.Disk { return filled(t, 12) },
		"armed for none": armed(0), "armed for one": armed(1), "armed for five": armed(5),
	}
}

func TestLimits(t *testing.T) {
	if api.MaxRecord != longest || api.PieceSize != part || api.SectorSize != size || api.MaxSectors != most || api.MaxNumber != top {
		t.Errorf("api has other limits than the document: %d, %d, %d, %d, %d", api.MaxRecord, api.PieceSize, api.SectorSize, api.MaxSectors, api.MaxNumber)
	}
}

// P9.1 to P9.4, the chapter's table.
func TestExamples(t *testing.T) {
	d := disk(t, 12)
	s := opens(t, "a new disk", d, 2, 0, nil)
	answers(t, "Append to a store that is not ready", s.Append([]byte{1}), api.ErrState)
	answers(t, "Renew(a)", s.Renew([]byte("a")), api.OK)
	answers(t, "Append(b)", s.Append([]byte("b")), api.OK)
	answers(t, "Append(c)", s.Append([]byte("c")), api.OK)
	if s.Epoch() != 1 || s.Count() != 2 {
		t.Errorf("Epoch %d, Count %d; want 1, 2", s.Epoch(), s.Count())
	}
	s = opens(t, "once more", d, 2, 1, []byte("a"), []byte("b"), []byte("c"))
	answers(t, "Append there", s.Append([]byte("d")), api.ErrState)
	answers(t, "Renew(d) there", s.Renew([]byte("d")), api.OK)
	opens(t, "once more", d, 2, 2, []byte("d"))
	for _, slot := range []int{6, 0} {
		if s, p, l, e := store.Open(d, slot); s != nil || p != nil || l != nil || e != api.ErrRange {
			t.Errorf("the slot %d: %v, %X, %X, %d; want ErrRange", slot, s, p, l, e)
		}
	}
}

// fits reports whether a disk of so many sectors has the slots and a sector more, in numbers of any size.
func fits(whole, slot int) bool {
	n := new(big.Int).Mul(big.NewInt(2), big.NewInt(int64(slot)))
	return slot >= 1 && n.Add(n, big.NewInt(1)).Cmp(big.NewInt(int64(whole))) <= 0
}

// P9.1 and R2: every number of sectors and slot out of the edges, with power and without it.
func TestSlots(t *testing.T) {
	for _, whole := range []int{1, 2, 3, 4, 5, 6, 7, 12, 13, 4097, most - 1, most} {
		slots := append([]int{0, 1, 2, 3, 4, 5, 6, 7, whole/2 - 2, whole/2 - 1, whole / 2, whole/2 + 1, whole - 1, whole, whole + 1}, far...)
		for _, slot := range slots {
			for _, down := range []bool{false, true} {
				d := disk(t, whole)
				if down {
					fail(d)
				}
				want := api.OK
				switch {
				case !fits(whole, slot):
					want = api.ErrRange
				case down:
					want = api.ErrDown
				}
				what := fmt.Sprintf("%d sectors, the slot %d, down %v", whole, slot, down)
				if want == api.OK {
					usesAll(t, what, d, slot)
					continue
				}
				if s, p, l, e := store.Open(d, slot); s != nil || p != nil || l != nil || e != want {
					t.Errorf("%s: %v, %X, %X, %d; want %d", what, s, p, l, e, want)
				}
			}
		}
	}
}

// usesAll fills a new disk with two checkpoints and records until there is no room.
func usesAll(t *testing.T, what string, d *sector.Disk, slot int) {
	t.Helper()
	s := opens(t, what, d, slot, 0, nil)
	p, q := row(4, slot*part), row(5, slot*part)
	answers(t, what+", Renew of one byte more", s.Renew(row(4, slot*part+1)), api.ErrLong)
	answers(t, what+", Renew", s.Renew(p), api.OK)
	answers(t, what+", Renew once more", s.Renew(q), api.OK)
	room := d.Len() - 2*slot
	var records [][]byte
	for n := min(room*part, longest); room > 0; n = min(room*part, longest) {
		if room*part < longest {
			answers(t, what+", Append of one byte more", s.Append(row(6, n+1)), api.ErrFull)
		}
		answers(t, what+", Append", s.Append(row(6, n)), api.OK)
		records, room = append(records, row(6, n)), room-pieces(n)
	}
	answers(t, what+", Append to a full area", s.Append(nil), api.ErrFull)
	if s.Epoch() != 2 || s.Count() != len(records) {
		t.Errorf("%s: Epoch %d, Count %d; want 2, %d", what, s.Epoch(), s.Count(), len(records))
	}
	opens(t, what+", full", d, slot, 2, q, records...)
	tear(t, d, 0)
	opens(t, what+", the later one torn", d, slot, 1, p)
}

// P9.1 and R2: Open, refused or not, changes nothing of the disk, whatever state it is in; nor does what an opened store is asked.
func TestOpenChangesNothing(t *testing.T) {
	for name, fresh := range states(t) {
		untouched := fresh()
		before, beneath := seen(untouched), hidden(untouched)
		for _, slot := range []int{1, 2, 3, 5, 6, 0, -1, math.MaxInt} {
			d := fresh()
			for range 2 {
				s, _, _, e := store.Open(d, slot)
				if e != api.OK {
					continue
				}
				answers(t, name+": Append", s.Append([]byte("x")), api.ErrState)
				answers(t, name+": Append of too much", s.Append(row(7, longest+1)), api.ErrState)
				answers(t, name+": Renew of too much", s.Renew(row(7, slot*part+1)), api.ErrLong)
				s.Epoch()
				s.Count()
			}
			if after := seen(d); after != before {
				t.Errorf("%s: the slot %d: %s, before it %s", name, slot, after, before)
			}
			if after := hidden(d); after != beneath {
				t.Errorf("%s: the slot %d: hidden %s, before it %s", name, slot, after, beneath)
			}
		}
	}
}

// P9.1: ErrRange counts ahead of ErrDown, and without power nothing is opened, whatever the disk holds.
func TestOpenWithoutPower(t *testing.T) {
	for name, fresh := range states(t) {
		for slot := -1; slot <= 7; slot++ {
			d := fresh()
			fail(d)
			want := api.ErrDown
			if !fits(12, slot) {
				want = api.ErrRange
			}
			if s, p, l, e := store.Open(d, slot); s != nil || p != nil || l != nil || e != want {
				t.Errorf("%s: the slot %d: %v, %X, %X, %d; want %d", name, slot, s, p, l, e, want)
			}
			d.Crash(nil)
			if want == api.ErrDown {
				p, epoch, l := spelt(d, slot)
				opens(t, name+", with power again", d, slot, epoch, p, l...)
			}
		}
	}
}

// P9.1: a disk whose power is armed, even for no operation, is opened: Open performs none.
func TestOpenOfAnArmedDisk(t *testing.T) {
	for name, fresh := range states(t) {
		for n := range 4 {
			d := fresh()
			if d.Down() {
				continue
			}
			d.Arm(n)
			p, epoch, l := spelt(d, 2)
			s := opens(t, name, d, 2, epoch, p, l...)
			answers(t, fmt.Sprintf("%s, armed for %d", name, n), s.Renew(nil), map[bool]api.Errno{true: api.OK, false: api.ErrDown}[n >= 2])
		}
	}
}

// P9.1: a store without a checkpoint has no records, whatever the area holds.
func TestNoRecordsWithoutACheckpoint(t *testing.T) {
	for _, epoch := range epochs {
		d := disk(t, 12)
		note(t, d, 2, epoch, row(8, 3), nil, row(8, 90))
		s := opens(t, fmt.Sprint("records of the epoch ", epoch), d, 2, 0, nil)
		answers(t, "Append", s.Append(nil), api.ErrState)
		save(t, d, 2, epoch, []byte("c"))
		opens(t, "with a checkpoint", d, 2, epoch, []byte("c"), row(8, 3), nil, row(8, 90))
		tear(t, d, epoch%2*2)
		opens(t, "the checkpoint torn", d, 2, 0, nil)
	}
	for _, number := range []int{0, 1, -1} { // sectors that might be a record of the epoch 0
		for mark := range 2 {
			d := disk(t, 12)
			lay(t, d, 4, append(head(0, number, mark), row(8, part)...))
			opens(t, "records of the epoch 0", d, 2, 0, nil)
		}
	}
}

// P9.1: of records of all epochs there are those of the checkpoint's.
func TestRecordsAreThoseOfTheEpoch(t *testing.T) {
	for _, a := range epochs {
		for _, b := range epochs {
			for _, c := range epochs {
				d := disk(t, 9)
				save(t, d, 2, a, row(9, 50))
				save(t, d, 2, b, row(10, 9))
				note(t, d, 2, c, nil, row(11, 41))
				want, epoch := row(9, 50), a
				if b > a || a%2 == b%2 {
					want, epoch = row(10, 9), b
				}
				var l [][]byte
				if c == epoch {
					l = [][]byte{nil, row(11, 41)}
				}
				opens(t, fmt.Sprintf("checkpoints of %d and %d, records of %d", a, b, c), d, 2, epoch, want, l...)
			}
		}
	}
}

// P9.1, held against the chapter's words and against layers 7 and 8: disks of which some sectors are spoilt.
func TestOpenOfSpoiltDisks(t *testing.T) {
	for seed := range uint64(6000) {
		r := rand.New(rand.NewPCG(seed, 12))
		slot := 1 + r.IntN(5)
		d := disk(t, 2*slot+1+r.IntN(12))
		epoch := epochs[r.IntN(len(epochs)-2)]
		for range r.IntN(3) {
			save(t, d, slot, epoch, row(r.Uint64(), r.IntN(slot*part+1)))
			epoch++
		}
		j, _ := journal.New(d, 2*slot, d.Len()-2*slot, max(epoch-r.IntN(2), 1))
		for range r.IntN(8) {
			j.Append(row(r.Uint64(), lengths[r.IntN(len(lengths))]))
		}
		for range r.IntN(4) {
			spoil(t, r, d)
		}
		p, k, l := spelt(d, slot)
		what := fmt.Sprint("seed ", seed)
		opens(t, what, d, slot, k, p, l...)
		q, m, _ := check.Load(d, 0, slot)
		records, _ := journal.Scan(d, 2*slot, d.Len()-2*slot, m) // none for the epoch 0
		if !bytes.Equal(p, q) || k != m || !same(l, records) {
			t.Errorf("%s: by layers 7 and 8 %s, %d, %s", what, short(q), m, short(records...))
		}
	}
}

// spoil changes a sector of any disk.
func spoil(t *testing.T, r *rand.Rand, d *sector.Disk) {
	t.Helper()
	i := r.IntN(d.Len())
	b, _ := d.Read(i)
	switch r.IntN(4) {
	case 0:
		tear(t, d, i)
		return
	case 1:
		b = b[:r.IntN(len(b)+1)]
	case 2:
		b, _ = d.Read(r.IntN(d.Len()))
	default:
		for k := range b {
			if r.IntN(30) == 0 {
				b[k] ^= 1 << r.IntN(8)
			}
		}
	}
	lay(t, d, i, b)
}

// P9.2 and P9.3: the sectors of each checkpoint and of each record, and none beside them, on disks whose sectors all have bytes.
func TestSectorsOfEachLength(t *testing.T) {
	for _, whole := range []int{9, 13, 20} {
		for slot := 1; 2*slot < whole; slot++ {
			x := over(t, slot, func() *sector.Disk { return filled(t, whole) })
			for k, n := range append(slices.Clone(lengths), lengths...) {
				what := fmt.Sprintf("%d sectors, the slot %d, the epoch %d", whole, slot, x.w.epoch)
				x.renew(t, what, row(uint64(k), n))
				for _, m := range lengths {
					x.append(t, what, row(uint64(k), m))
				}
				for x.append(t, what, nil) == api.OK {
				}
				if k%3 == 0 {
					x.reopen(t, what)
				}
				if len(x.d.Dirty()) > 0 {
					t.Errorf("%s: dirty are %v", what, x.d.Dirty())
				}
			}
		}
	}
}

// P9.2: the last epoch of all, and no one behind it, for a store that is ready and for one that is not.
func TestLastEpoch(t *testing.T) {
	for _, reopened := range []bool{false, true} {
		for _, n := range []int{0, 50, 80, 81} {
			x := over(t, 2, func() *sector.Disk {
				d := disk(t, 9)
				save(t, d, 2, top-2, row(13, 80))
				note(t, d, 2, top-2, nil)
				return d
			})
			answers(t, "the last but one", x.renew(t, "the last but one", row(14, 41)), api.OK)
			answers(t, "the last one", x.renew(t, "the last one", row(15, 42)), api.OK)
			answers(t, "a record", x.append(t, "the last one", row(16, 3)), api.OK)
			if reopened {
				x.reopen(t, "the last one")
			}
			answers(t, "an epoch more", x.renew(t, "an epoch more", row(17, n)), api.ErrRange)
			want := api.OK
			if reopened {
				want = api.ErrState
			}
			answers(t, "a record behind it", x.append(t, "behind it", row(18, 41)), want)
			answers(t, "an epoch more, again", x.renew(t, "an epoch more", nil), api.ErrRange)
			x.arm(0)
			answers(t, "an epoch more, without operations", x.renew(t, "an epoch more", nil), api.ErrRange)
			x.arm(-1)
			records := [][]byte{row(16, 3), row(18, 41)}
			if reopened {
				records = records[:1]
			}
			opens(t, "the last one", x.d, 2, top, row(15, 42), records...)
		}
	}
}

// ground is a disk of ten sectors, with slots of three, and a store in some state.
type ground struct {
	name    string
	fresh   func(t *testing.T) *pair
	epoch   int
	p       []byte
	records [][]byte
}

// grounds are stores in all sorts of states.
func grounds() []ground {
	empty := func(t *testing.T) *pair { return over(t, 3, func() *sector.Disk { return disk(t, 10) }) }
	of := func(records ...[]byte) func(t *testing.T) *pair {
		return func(t *testing.T) *pair {
			x := empty(t)
			x.renew(t, "at first", row(20, 120))
			x.append(t, "at first", row(21, 160))
			x.renew(t, "at first", row(22, 41))
			for _, p := range records {
				x.append(t, "at first", p)
			}
			return x
		}
	}
	opened := func(t *testing.T) *pair {
		x := of(nil, row(23, 41))(t)
		x.reopen(t, "at first")
		return x
	}
	torn := func(t *testing.T) *pair {
		return over(t, 3, func() *sector.Disk {
			d := filled(t, 10)
			for _, i := range []int{0, 1, 3, 6, 8} {
				tear(t, d, i)
			}
			return d
		})
	}
	renewed := func(t *testing.T) *pair {
		x := opened(t)
		x.renew(t, "at first", nil)
		return x
	}
	interrupted := func(t *testing.T) *pair {
		x := of(row(24, 3))(t)
		x.arm(2)
		x.renew(t, "at first", row(25, 120))
		x.crash([]int{1, 2})
		x.reopen(t, "at first")
		return x
	}
	cut := func(t *testing.T) *pair {
		x := of(row(24, 3))(t)
		x.arm(2)
		x.append(t, "at first", row(25, 90))
		x.crash([]int{1, 2})
		x.reopen(t, "at first")
		x.renew(t, "at first", row(26, 80))
		return x
	}
	return []ground{
		{"new", empty, 0, nil, nil}, {"torn", torn, 0, nil, nil}, {"ready", of(), 2, row(22, 41), nil},
		{"with a record", of(row(24, 3)), 2, row(22, 41), [][]byte{row(24, 3)}},
		{"with records", of(nil, row(23, 41)), 2, row(22, 41), [][]byte{nil, row(23, 41)}},
		{"full", of(row(24, 160)), 2, row(22, 41), [][]byte{row(24, 160)}},
		{"opened", opened, 2, row(22, 41), [][]byte{nil, row(23, 41)}}, {"opened and renewed", renewed, 3, nil, nil},
		{"behind a Renew that was interrupted", interrupted, 2, row(22, 41), [][]byte{row(24, 3)}},
		{"behind an Append that was interrupted", cut, 3, row(26, 80), nil},
	}
}

// call is a Renew or an Append of so many bytes.
type call struct {
	renew bool
	n     int
}

// calls are all of them that a ground may be asked for.
func calls() []call {
	var l []call
	for _, n := range append([]int{longest, longest + 1}, lengths...) {
		l = append(l, call{true, n}, call{false, n})
	}
	return l
}

func (c call) on(t *testing.T, x *pair, what string, seed uint64) api.Errno {
	t.Helper()
	if c.renew {
		return x.renew(t, what, row(seed, c.n))
	}
	return x.append(t, what, row(seed, c.n))
}

// steps are the operations of a call that is not refused; none if it is.
func (c call) steps(x *pair, seed uint64) []step {
	p := row(seed, c.n)
	switch {
	case c.renew && pieces(c.n) <= x.w.slot:
		return renewing(x.w.slot, x.w.epoch+1, p)
	case !c.renew && x.w.ready && pieces(c.n) <= x.w.d.Len()-x.w.next:
		return appending(x.w.next, x.w.epoch, x.w.number+1, p)
	}
	return nil
}

// P9.2, P9.3 and R2: the first error that applies, and nothing has changed; the store remains what it was.
func TestRefusedCallsChangeNothing(t *testing.T) {
	for _, g := range grounds() {
		for _, c := range calls() {
			x := g.fresh(t)
			if c.steps(x, 27) != nil {
				continue
			}
			want := api.ErrLong
			switch {
			case !c.renew && !x.w.ready:
				want = api.ErrState
			case !c.renew && c.n <= longest:
				want = api.ErrFull
			}
			what := fmt.Sprintf("%s, %v", g.name, c)
			answers(t, what, c.on(t, x, what, 27), want)
			x.arm(0)
			answers(t, what+", without operations", c.on(t, x, what, 28), want)
			if x.d.Down() {
				t.Errorf("%s: the power has failed", what)
			}
			x.arm(-1)
			opens(t, what, x.d, 3, g.epoch, g.p, g.records...)
			if x.w.ready {
				records := slices.Clone(g.records)
				if x.append(t, what, []byte("next")) == api.OK {
					records = append(records, []byte("next"))
				}
				opens(t, what, x.d, 3, g.epoch, g.p, records...)
			}
			answers(t, what+", then Renew", x.renew(t, what, row(29, 81)), api.OK)
			answers(t, what+", then Append", x.append(t, what, row(29, 3)), api.OK)
			opens(t, what, x.d, 3, g.epoch+1, row(29, 81), row(29, 3))
		}
	}
}

// P9.2 and P9.3: a call that is refused is refused with the same error while the power has failed, unless the store is dead.
func TestRefusedWithoutPower(t *testing.T) {
	for _, g := range grounds() {
		for _, c := range calls() {
			x := g.fresh(t)
			x.fail()
			what := fmt.Sprintf("%s, without power, %v", g.name, c)
			refused := c.steps(x, 30) == nil
			if e := c.on(t, x, what, 30); refused == (e == api.ErrDown) {
				t.Errorf("%s: %d", what, e)
			}
			if refused {
				answers(t, what+", then Renew", x.renew(t, what, nil), api.ErrDown)
			}
			for _, c := range calls() { // it is dead by now
				answers(t, fmt.Sprintf("%s, then %v", what, c), c.on(t, x, what, 31), api.ErrDown)
			}
		}
	}
}

// P9.2 to P9.6: each call, whose power fails at each operation, with every fate of each sector that was not flushed.
func TestPowerFailsAtEachOperation(t *testing.T) {
	for _, g := range grounds() {
		for _, c := range calls() {
			l := c.steps(g.fresh(t), 32)
			dirty := 0
			for left := range l {
				for _, x := range fates(dirty) {
					interrupted(t, g, c, left, x, l)
				}
				if dirty++; l[left].flush {
					dirty = 0
				}
			}
			if len(l) > 0 {
				uninterrupted(t, g, c, len(l))
			}
		}
	}
}

// interrupted makes a call while the power lasts for so many operations, and one after the crash.
func interrupted(t *testing.T, g ground, c call, left int, become []int, l []step) {
	t.Helper()
	what := fmt.Sprintf("%s, %v, %d operations, fates %v", g.name, c, left, become)
	x := g.fresh(t)
	count := x.s.Count()
	x.arm(left)
	answers(t, what, c.on(t, x, what, 32), api.ErrDown)
	if x.s.Epoch() != g.epoch || x.s.Count() != count {
		t.Errorf("%s: Epoch %d, Count %d; before it %d, %d", what, x.s.Epoch(), x.s.Count(), g.epoch, count)
	}
	before := seen(x.d)
	for _, n := range []int{0, 121, longest + 1} {
		answers(t, what+", then Append", x.s.Append(row(33, n)), api.ErrDown)
		answers(t, what+", then Renew", x.s.Renew(row(33, n)), api.ErrDown)
	}
	if after := seen(x.d); after != before {
		t.Errorf("%s: a dead store changed the disk: %s, before it %s", what, after, before)
	}
	epoch, p, records := g.epoch, g.p, slices.Clone(g.records)
	if left == len(l)-1 && !slices.ContainsFunc(become, func(fate int) bool { return fate != 1 }) { // only its last flush is missing
		if c.renew {
			epoch, p, records = epoch+1, row(32, c.n), nil
		} else {
			records = append(records, row(32, c.n))
		}
	}
	dead := x.s
	x.crash(become)
	opens(t, what, x.d, 3, epoch, p, records...)
	x.reopen(t, what)
	answers(t, what+", Append behind it", x.append(t, what, nil), api.ErrState)
	answers(t, what+", the dead store's Append", dead.Append(nil), api.ErrDown)
	answers(t, what+", the dead store's Renew", dead.Renew(nil), api.ErrDown)
	opens(t, what, x.d, 3, epoch, p, records...)
	answers(t, what+", Renew behind it", x.renew(t, what, row(34, 90)), api.OK)
	opens(t, what, x.d, 3, epoch+1, row(34, 90))
	answers(t, what+", Append behind that", x.append(t, what, row(34, 41)), api.OK)
	opens(t, what, x.d, 3, epoch+1, row(34, 90), row(34, 41))
}

// uninterrupted makes a call while the power lasts for just as many operations as it takes.
func uninterrupted(t *testing.T, g ground, c call, operations int) {
	t.Helper()
	what := fmt.Sprintf("%s, %v, %d operations", g.name, c, operations)
	x := g.fresh(t)
	x.arm(operations)
	answers(t, what, c.on(t, x, what, 32), api.OK)
	epoch, p, records := g.epoch, g.p, slices.Clone(g.records)
	if c.renew {
		epoch, p, records = epoch+1, row(32, c.n), nil
	} else {
		records = append(records, row(32, c.n))
	}
	opens(t, what, x.d, 3, epoch, p, records...)
	answers(t, what+", an operation more", x.renew(t, what, nil), api.ErrDown)
	x.crash([]int{0, 2, 2})
	opens(t, what+", after a crash", x.d, 3, epoch, p, records...)
}

// attempt is a call for which the power lasts for so many operations, with the fates of what was not flushed.
type attempt struct {
	c      call
	left   int
	become []int
}

// attempts are those of calls of these lengths, at each of their operations.
func attempts(lengths ...int) []attempt {
	var l []attempt
	for _, n := range lengths {
		for _, c := range []call{{true, n}, {false, n}} {
			s := appending(6, 1, 1, row(35, n))
			if c.renew {
				s = renewing(3, 1, row(35, n))
			}
			dirty := 0
			for left := range s {
				for _, x := range fates(dirty) {
					l = append(l, attempt{c, left, x})
				}
				if dirty++; s[left].flush {
					dirty = 0
				}
			}
		}
	}
	return l
}

// P9.5: three calls one behind the other, each of which is interrupted anywhere; ahead of an Append there is a Renew, and there may be a record.
func TestFailuresOneBehindTheOther(t *testing.T) {
	l := attempts(0, 41, 90)
	for i, a := range l {
		for j, b := range l {
			for k, c := range l {
				if (i+j+k)%23 > 0 { // each two of them with some third ones
					continue
				}
				x := over(t, 3, func() *sector.Disk { return disk(t, 10) })
				for seed, y := range []attempt{a, b, c} {
					x.try(t, fmt.Sprint(a, b, c), y, uint64(36+seed))
				}
			}
		}
	}
}

// try makes an attempt, and holds what is there afterwards against what P9.5 allows.
func (x *pair) try(t *testing.T, what string, a attempt, seed uint64) {
	t.Helper()
	if !a.c.renew {
		x.renew(t, what, row(seed+10, 50))
		if a.left%2 == 1 {
			x.append(t, what, row(seed+20, 3))
		}
	}
	p, epoch, records := spelt(x.w.d, 3)
	x.arm(a.left)
	answers(t, what, a.c.on(t, x, what, seed), api.ErrDown)
	x.crash(a.become)
	_, q, l, e := store.Open(x.d, 3)
	old := bytes.Equal(q, p) && same(l, records)
	fresh := bytes.Equal(q, row(seed, a.c.n)) && len(l) == 0
	if !a.c.renew {
		fresh = bytes.Equal(q, p) && same(l, append(slices.Clone(records), row(seed, a.c.n)))
	}
	if e != api.OK || !old && !fresh {
		t.Fatalf("%s: %v: Open %s, %s, %d; before it %s, %d, %s", what, a, short(q), short(l...), e, short(p), epoch, short(records...))
	}
	x.reopen(t, what)
}

// P9.1 to P9.6, held against the chapter's words: every script of four calls out of fifteen, behind each ground of some.
func TestShortScripts(t *testing.T) {
	all := []func(x *pair, k int){
		func(x *pair, k int) { x.renew(t, "script", row(uint64(k), 0)) },
		func(x *pair, k int) { x.renew(t, "script", row(uint64(k), 50)) },
		func(x *pair, k int) { x.renew(t, "script", row(uint64(k), 120)) },
		func(x *pair, k int) { x.renew(t, "script", row(uint64(k), 121)) },
		func(x *pair, k int) { x.append(t, "script", row(uint64(k), 0)) },
		func(x *pair, k int) { x.append(t, "script", row(uint64(k), 41)) },
		func(x *pair, k int) { x.append(t, "script", row(uint64(k), 161)) },
		func(x *pair, k int) { x.append(t, "script", row(uint64(k), longest+1)) },
		func(x *pair, k int) { x.arm(0) },
		func(x *pair, k int) { x.arm(1) },
		func(x *pair, k int) { x.arm(3) },
		func(x *pair, k int) { x.arm(-1) },
		func(x *pair, k int) { x.crash([]int{1, 2}); x.reopen(t, "script") },
		func(x *pair, k int) { x.crash([]int{1, 1, 1}); x.reopen(t, "script") },
		func(x *pair, k int) {
			if !x.d.Down() {
				x.reopen(t, "script")
			}
		},
	}
	n := len(all)
	for i, g := range grounds() {
		for at := range n * n * n * n {
			if (at+at/n)%10 != i { // each script behind one of them
				continue
			}
			x := g.fresh(t)
			for k, c := range []int{at % n, at / n % n, at / n / n % n, at / n / n / n} {
				all[c](x, 50+k)
			}
			if t.Failed() {
				t.Fatalf("%s, the script %d", g.name, at)
			}
		}
	}
}

// P9.1 to P9.6, held against the chapter's words: long scripts on disks of all sizes.
func TestLongScripts(t *testing.T) {
	for seed := range uint64(2500) {
		r := rand.New(rand.NewPCG(seed, 60))
		slot := 1 + r.IntN(5)
		whole := 2*slot + 1 + r.IntN(20)
		x := over(t, slot, func() *sector.Disk {
			if seed%2 == 0 {
				return disk(t, whole)
			}
			return filled(t, whole)
		})
		what := fmt.Sprintf("seed %d, %d sectors, the slot %d", seed, whole, slot)
		epoch := 0
		for range 60 {
			switch k := r.IntN(20); {
			case k < 10:
				x.append(t, what, row(r.Uint64(), r.IntN(1+r.IntN(4)*part)))
			case k < 14:
				if x.renew(t, what, row(r.Uint64(), r.IntN(slot*part+5))) == api.OK && x.s.Epoch() != epoch+1 {
					t.Errorf("%s: the epoch %d behind %d", what, x.s.Epoch(), epoch)
				}
			case k < 16:
				x.arm(r.IntN(9))
			case k == 16 && !x.d.Down():
				x.reopen(t, what)
			case k == 17 || x.w.dead:
				l := make([]int, len(x.d.Dirty()))
				for i := range l {
					l[i] = []int{1, 1, 1, 0, 2, -1}[r.IntN(6)]
				}
				x.crash(l)
				x.reopen(t, what)
			}
			if x.s.Epoch() < epoch {
				t.Errorf("%s: the epoch %d behind %d", what, x.s.Epoch(), epoch)
			}
			epoch = x.s.Epoch()
		}
		if t.Failed() {
			t.FailNow()
		}
	}
}

// P9.5: everything that was answered with OK is there after any crash, between calls as well.
func TestCrashBetweenCalls(t *testing.T) {
	d := disk(t, 40)
	s := opens(t, "new", d, 4, 0, nil)
	epoch, ready := 0, false
	var p []byte
	var records [][]byte
	for k := range 200 {
		if !ready || k%11 == 0 {
			p, records = row(uint64(k), k*13%161), nil
			answers(t, "Renew", s.Renew(p), api.OK)
			epoch, ready = epoch+1, true
		} else {
			records = append(records, row(uint64(k), k*7%100))
			answers(t, "Append", s.Append(records[len(records)-1]), api.OK)
		}
		if k%5 > 2 {
			d.Crash([]int{k % 3, 0, 2})
			s, ready = opens(t, fmt.Sprint("call ", k), d, 4, epoch, p, records...), false
		}
	}
}

// P9.6: the result of Open does not change as long as no call writes, and other stores' calls that are refused do not write.
func TestOpenOverAndOver(t *testing.T) {
	for _, g := range grounds() {
		x := g.fresh(t)
		for k := range 5 {
			s := opens(t, g.name, x.d, 3, g.epoch, g.p, g.records...)
			answers(t, g.name, s.Append(nil), api.ErrState)
			answers(t, g.name, s.Renew(row(61, 121+k)), api.ErrLong)
			answers(t, g.name, s.Append(row(61, longest+1)), api.ErrState)
			if k%2 == 1 {
				x.d.Crash([]int{2})
			}
		}
	}
}

// P9.4 and P9.6: the epoch increases by one with each Renew that is done, and by nothing else; Count starts anew.
func TestEpochAndCount(t *testing.T) {
	d := disk(t, 30)
	s := opens(t, "new", d, 3, 0, nil)
	for epoch := 1; epoch <= 40; epoch++ {
		answers(t, "Renew of too much", s.Renew(row(62, 121)), api.ErrLong)
		answers(t, "Renew", s.Renew(row(62, epoch*3)), api.OK)
		for count := range 12 {
			if s.Epoch() != epoch || s.Count() != count {
				t.Errorf("Epoch %d, Count %d; want %d, %d", s.Epoch(), s.Count(), epoch, count)
			}
			answers(t, "Append", s.Append(row(63, count*5)), api.OK)
			answers(t, "Append of too much", s.Append(row(63, 24*part+1)), api.ErrFull)
		}
		if epoch%4 == 0 {
			var records [][]byte
			for count := range 12 {
				records = append(records, row(63, count*5))
			}
			s = opens(t, "once more", d, 3, epoch, row(62, epoch*3), records...)
		}
	}
}

// P9.1 to P9.4: the disk and the slot of a node, with as many bytes as there may be, and with one more.
func TestGreatestDisk(t *testing.T) {
	d := disk(t, most)
	s := opens(t, "new", d, 2048, 0, nil)
	p := row(64, 2048*part)
	answers(t, "Renew of one byte more", s.Renew(row(64, 2048*part+1)), api.ErrLong)
	answers(t, "Renew", s.Renew(p), api.OK)
	var records [][]byte
	for k := range 14 { // of 820 sectors each, of which there are 12288
		answers(t, "Append of one byte more", s.Append(row(65, longest+1)), api.ErrLong)
		records = append(records, row(uint64(k), longest))
		answers(t, "Append", s.Append(records[k]), api.OK)
	}
	answers(t, "the fifteenth", s.Append(row(65, longest)), api.ErrFull)
	answers(t, "the fifteenth, of more than there may be", s.Append(row(65, longest+1)), api.ErrLong)
	records = append(records, row(66, 808*part))
	answers(t, "what is left", s.Append(records[14]), api.OK)
	answers(t, "no room", s.Append(nil), api.ErrFull)
	if s.Count() != 15 {
		t.Errorf("Count %d, want 15", s.Count())
	}
	s = opens(t, "full", d, 2048, 1, p, records...)
	d.Arm(2049)
	answers(t, "Renew without its last flush", s.Renew(p[1:]), api.ErrDown)
	d.Crash([]int{2})
	opens(t, "full, and torn", d, 2048, 1, p, records...)
}

// R4: the same calls have the same results.
func TestSameCallsSameResults(t *testing.T) {
	trace := func() string {
		r := rand.New(rand.NewPCG(67, 67))
		d := disk(t, 24)
		var b strings.Builder
		s, p, l, e := store.Open(d, 3)
		for range 150 {
			fmt.Fprint(&b, p, l, e)
			switch k := r.IntN(8); {
			case k < 4:
				e = s.Append(row(r.Uint64(), r.IntN(90)))
			case k < 6:
				e = s.Renew(row(r.Uint64(), r.IntN(130)))
			default:
				d.Arm(r.IntN(9))
			}
			fmt.Fprint(&b, e, s.Epoch(), s.Count(), seen(d))
			if e == api.ErrDown {
				d.Crash([]int{1, 0, 2})
				s, p, l, e = store.Open(d, 3)
			}
		}
		return b.String()
	}
	first := trace()
	for range 3 {
		if trace() != first {
			t.Fatal("another answer the second time")
		}
	}
}

// spare is b with memory behind it that nothing may write into.
func spare(b []byte) []byte {
	return append(bytes.Clone(b), bytes.Repeat([]byte{0xAA}, 70)...)[:len(b)]
}

// untouched reports whether b, with all of its memory, is still what spare made of want.
func untouched(b, want []byte) bool {
	return bytes.Equal(b, want) && bytes.Equal(b[len(b):len(b)+70], bytes.Repeat([]byte{0xAA}, 70))
}

// fill writes into all the memory that b reaches.
func fill(b []byte, v byte) {
	b = b[:cap(b)]
	for i := range b {
		b[i] = v
	}
}

// R3: Renew and Append neither change nor keep their bytes, whether they are done, refused or interrupted.
func TestMemoryOfArguments(t *testing.T) {
	for _, g := range grounds() {
		for _, c := range calls() {
			for left := -1; left < 6; left++ {
				x := g.fresh(t)
				p := spare(row(68, c.n))
				x.arm(left)
				what := fmt.Sprintf("%s, %v, %d operations left", g.name, c, left)
				e := api.OK
				if c.renew {
					e = x.s.Renew(p)
				} else {
					e = x.s.Append(p)
				}
				if !untouched(p, row(68, c.n)) {
					t.Errorf("%s: its argument or the memory behind it has changed", what)
				}
				before := seen(x.d)
				fill(p, 0x66)
				if seen(x.d) != before {
					t.Errorf("%s: the disk hangs on its argument", what)
				}
				if e != api.OK || left >= 0 {
					continue
				}
				_, q, l, _ := store.Open(x.d, 3)
				if c.renew && !bytes.Equal(q, row(68, c.n)) || !c.renew && !bytes.Equal(l[len(g.records)], row(68, c.n)) {
					t.Errorf("%s: %s, %s", what, short(q), short(l...))
				}
			}
		}
	}
}

// R3: what Open answers shares nothing with the disk, with the store, with another answer, or among its parts.
func TestMemoryOfOpen(t *testing.T) {
	records := [][]byte{row(69, 1), nil, row(69, 40), row(69, 41), row(69, 100), nil, row(69, 3)}
	for _, n := range []int{0, 1, 40, 41, 120} {
		d := disk(t, 20)
		p := row(69, n)
		save(t, d, 3, 5, p)
		note(t, d, 3, 5, records...)
		before := seen(d)
		s, first, l, _ := store.Open(d, 3)
		_, second, m, _ := store.Open(d, 3)
		fill(first, 0x55)
		for k := range l {
			fill(l[k], 0x55)
			for i := range l {
				if i > k && !bytes.Equal(l[i], records[i]) {
					t.Errorf("%d bytes: the record %d shares memory with the record %d or the checkpoint", n, i, k)
				}
			}
		}
		for i := range l[:cap(l)] {
			l[:cap(l)][i] = nil
		}
		if !bytes.Equal(second, p) || !same(m, records) {
			t.Errorf("%d bytes: Open's answer shares memory with another one", n)
		}
		if seen(d) != before {
			t.Errorf("%d bytes: Open's answer shares memory with the disk", n)
		}
		answers(t, "Renew", s.Renew(row(70, 120)), api.OK)
		answers(t, "Append", s.Append(row(70, 120)), api.OK)
		if !bytes.Equal(second, p) || !same(m, records) {
			t.Errorf("%d bytes: Open's answer hangs on later calls", n)
		}
		opens(t, "overwritten", d, 3, 6, row(70, 120), row(70, 120))
	}
}

// R3 and R4: two stores on two disks have nothing in common.
func TestTwoStoresOnTwoDisks(t *testing.T) {
	c, d := disk(t, 10), disk(t, 12)
	a, b := opens(t, "the first", c, 3, 0, nil), opens(t, "the second", d, 2, 0, nil)
	answers(t, "Renew", a.Renew([]byte("one")), api.OK)
	answers(t, "the other one's Append", b.Append(nil), api.ErrState)
	opens(t, "the second", d, 2, 0, nil)
	answers(t, "Append", a.Append([]byte("two")), api.OK)
	answers(t, "the other one's Renew", b.Renew(row(71, 80)), api.OK)
	fail(c)
	answers(t, "without power", a.Append(nil), api.ErrDown)
	answers(t, "the other one's Append", b.Append(row(71, 41)), api.OK)
	if a.Epoch() != 1 || a.Count() != 1 || b.Epoch() != 1 || b.Count() != 1 {
		t.Errorf("epochs %d, %d, counts %d, %d; want 1, 1, 1, 1", a.Epoch(), b.Epoch(), a.Count(), b.Count())
	}
	c.Crash(nil)
	opens(t, "the first", c, 3, 1, []byte("one"), []byte("two"))
	opens(t, "the second", d, 2, 1, row(71, 80), row(71, 41))
}
