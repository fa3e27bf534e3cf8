package pack_test

import (
	"bytes"
	"encoding/binary"
	"math"
	"math/big"
	"math/rand/v2"
	"slices"
	"testing"

	"glebe/api"
	"glebe/pack"
)

// numbers are ints of all sorts: about 0, about each power of two that ends a byte, and the ends.
func numbers() []int {
	l := []int{0, 1, -1, 2, -2, 258, -258, math.MaxInt, math.MaxInt - 1, math.MinInt, math.MinInt + 1, 0x0102030405060708, -0x0102030405060708}
	for bits := 7; bits < 63; bits++ {
		l = append(l, 1<<bits-1, 1<<bits, 1<<bits+1, -1<<bits-1, -1<<bits, -1<<bits+1)
	}
	return l
}

// lengths are those of byte strings and lists, the limits of api among them.
var lengths = []int{0, 1, 2, 7, 8, 9, 15, 16, 17, 40, 64, 255, 256, 257, 1<<15 - 1, 1 << 15, 1 << 16, 1<<16 + 1}

// row is the same n bytes at every run: what a test finds must be found again.
func row(seed uint64, n int) []byte {
	r := rand.New(rand.NewPCG(seed, uint64(n)))
	b := make([]byte, n)
	for i := range b {
		b[i] = byte(r.Uint32())
	}
	return b
}

func list(seed uint64, n int) []int {
	r := rand.New(rand.NewPCG(seed, uint64(n)))
	l := make([]int, n)
	for i := range l {
		l[i] = int(r.Uint64())
	}
	return l
}

// heads are what is encoded behind.
func heads() [][]byte { return [][]byte{nil, {}, {9}, row(1, 8), row(2, 1000)} }

// eight is the encoding of a number by the document's words: two's complement is the number modulo 2^64.
func eight(v int) []byte {
	z := new(big.Int).Mod(big.NewInt(int64(v)), new(big.Int).Lsh(big.NewInt(1), 64))
	return z.FillBytes(make([]byte, 8))
}

func join(l ...[]byte) []byte { return slices.Concat(l...) }

func encoded(l []int) []byte {
	b := eight(len(l))
	for _, v := range l {
		b = append(b, eight(v)...)
	}
	return b
}

func same(t *testing.T, what string, got, want []byte) {
	t.Helper()
	if !bytes.Equal(got, want) {
		t.Errorf("%s: %d bytes %.40X, want %d bytes %.40X", what, len(got), got, len(want), want)
	}
}

// P2.1, the chapter's first table.
func TestExamplesOfEncoding(t *testing.T) {
	same(t, "Int of none and 258", pack.Int(nil, 258), []byte{0, 0, 0, 0, 0, 0, 1, 2})
	same(t, "Int of none and -1", pack.Int(nil, -1), []byte{255, 255, 255, 255, 255, 255, 255, 255})
	same(t, "Blob of 09 and the bytes 07", pack.Blob([]byte{9}, []byte{7}), []byte{9, 0, 0, 0, 0, 0, 0, 0, 1, 7})
	same(t, "Ints of none and the list 1, -1", pack.Ints(nil, []int{1, -1}), []byte{
		0, 0, 0, 0, 0, 0, 0, 2, 0, 0, 0, 0, 0, 0, 0, 1, 255, 255, 255, 255, 255, 255, 255, 255})
}

// P2.1: the ends of int, written out.
func TestIntAtTheEnds(t *testing.T) {
	same(t, "the least int", pack.Int(nil, math.MinInt), []byte{0x80, 0, 0, 0, 0, 0, 0, 0})
	same(t, "the greatest int", pack.Int(nil, math.MaxInt), []byte{0x7F, 255, 255, 255, 255, 255, 255, 255})
	same(t, "each byte another", pack.Int(nil, 0x0102030405060708), []byte{1, 2, 3, 4, 5, 6, 7, 8})
	same(t, "nought", pack.Int(nil, 0), make([]byte, 8))
}

// P2.1
func TestIntIsBehindTheBytes(t *testing.T) {
	for _, h := range heads() {
		for _, v := range numbers() {
			same(t, "Int", pack.Int(h, v), join(h, eight(v)))
		}
	}
}

// P2.1
func TestBlobIsBehindTheBytes(t *testing.T) {
	for _, h := range heads() {
		same(t, "Blob of nil", pack.Blob(h, nil), join(h, make([]byte, 8)))
		for _, n := range lengths {
			p := row(3, n)
			same(t, "Blob", pack.Blob(h, p), join(h, eight(n), p))
		}
		same(t, "Blob of the same twice", pack.Blob(h, h), join(h, eight(len(h)), h))
	}
}

// P2.1
func TestIntsIsBehindTheBytes(t *testing.T) {
	for _, h := range heads() {
		same(t, "Ints of nil", pack.Ints(h, nil), join(h, make([]byte, 8)))
		same(t, "Ints of many sorts", pack.Ints(h, numbers()), join(h, encoded(numbers())))
		for _, n := range lengths {
			l := list(4, n)
			same(t, "Ints", pack.Ints(h, l), join(h, encoded(l)))
		}
	}
}

// P2.2 and P2.3, the chapter's second table.
func TestExamplesOfReading(t *testing.T) {
	b := pack.Blob(nil, []byte{7})
	r := pack.Read(b)
	same(t, "Blob", r.Blob(), []byte{7})
	if r.Left() != 0 || r.End() != api.OK || r.Bad() {
		t.Errorf("the second one: Left %d, End %d, Bad %t", r.Left(), r.End(), r.Bad())
	}
	r = pack.Read(b[:8])
	if p := r.Blob(); len(p) != 0 {
		t.Errorf("without 07: Blob %X", p)
	}
	bad(t, "without 07", r)
	r = pack.Read(pack.Int(nil, 258))
	if r.Left() != 8 {
		t.Errorf("the first one: Left %d", r.Left())
	}
	if l := r.Ints(); len(l) != 0 {
		t.Errorf("the first one: Ints %d", l)
	}
	bad(t, "the first one", r)
	r = pack.Read(append(pack.Int(nil, 0), 9))
	if l := r.Ints(); len(l) != 0 || r.Bad() || r.Left() != 1 || r.End() != api.ErrLong {
		t.Errorf("the number 0 and a byte: Ints %d, Bad %t, Left %d, End %d", l, r.Bad(), r.Left(), r.End())
	}
}

// bad asks a bad reader all there is to ask, twice, since it must stay bad.
func bad(t *testing.T, what string, r *pack.Reader) {
	t.Helper()
	for range 2 {
		if !r.Bad() || r.Left() != 0 || r.End() != api.ErrForm {
			t.Errorf("%s: Bad %t, Left %d, End %d", what, r.Bad(), r.Left(), r.End())
		}
		n, p, l := r.Int(), r.Blob(), r.Ints()
		if n != 0 || len(p) != 0 || len(l) != 0 {
			t.Errorf("%s: a bad reader tells %d, %X, %d", what, n, p, l)
		}
	}
}

// P2.2: seven bytes are no number, eight are one, and the ninth is left.
func TestNumbersNeedEightBytes(t *testing.T) {
	for n := range 8 {
		for _, c := range []byte{0, 1, 255} {
			b := bytes.Repeat([]byte{c}, n)
			r := pack.Read(b)
			if v := r.Int(); v != 0 {
				t.Errorf("%d bytes %02X: Int %d", n, c, v)
			}
			bad(t, "Int of too few bytes", r)
			r = pack.Read(b)
			if p := r.Blob(); len(p) != 0 {
				t.Errorf("%d bytes %02X: Blob %X", n, c, p)
			}
			bad(t, "Blob of too few bytes", r)
			r = pack.Read(b)
			if l := r.Ints(); len(l) != 0 {
				t.Errorf("%d bytes %02X: Ints %d", n, c, l)
			}
			bad(t, "Ints of too few bytes", r)
		}
	}
	for _, v := range numbers() {
		r := pack.Read(append(eight(v), 5))
		if got := r.Int(); got != v || r.Bad() || r.Left() != 1 || r.End() != api.ErrLong {
			t.Errorf("Int %d, want %d; Bad %t, Left %d, End %d", got, v, r.Bad(), r.Left(), r.End())
		}
		if got := r.Int(); got != 0 {
			t.Errorf("Int of one byte left: %d", got)
		}
		bad(t, "one byte left", r)
	}
}

// P2.2: lengths about the number of bytes left, below 0, and about the ends of int; 8 times some of them is little again if it wraps round.
func TestLengthsThatDoNotFit(t *testing.T) {
	for _, left := range []int{0, 1, 7, 8, 9, 15, 16, 17, 24, 64, 1000} {
		tail := row(5, left)
		claims := []int{math.MinInt, math.MinInt + 1, -1 << 61, -1 << 60, -8, -2, -1, left + 1, left + 2, 2 * left, left/8 + 1}
		claims = append(claims, 1<<60-1, 1<<60, 1<<60+1, 1<<61-1, 1<<61, 1<<61+1, 1<<61+2, 1<<62-1, 1<<62, 1<<62+1, math.MaxInt/8, math.MaxInt/8+1, math.MaxInt-8, math.MaxInt-7, math.MaxInt-1, math.MaxInt)
		for k := range left + 3 {
			claims = append(claims, k)
		}
		for _, claim := range claims {
			b := append(eight(claim), tail...)
			blobAgainstWords(t, b, claim, tail)
			intsAgainstWords(t, b, claim, tail)
		}
	}
}

func blobAgainstWords(t *testing.T, b []byte, claim int, tail []byte) {
	t.Helper()
	r := pack.Read(b)
	p := r.Blob()
	if claim < 0 || claim > len(tail) {
		if len(p) != 0 {
			t.Errorf("length %d, %d bytes left: Blob has %d bytes", claim, len(tail), len(p))
		}
		bad(t, "Blob that does not fit", r)
		return
	}
	same(t, "Blob that fits", p, tail[:claim])
	if r.Bad() || r.Left() != len(tail)-claim {
		t.Errorf("length %d, %d bytes left: Blob leaves %d, Bad %t", claim, len(tail), r.Left(), r.Bad())
	}
}

func intsAgainstWords(t *testing.T, b []byte, claim int, tail []byte) {
	t.Helper()
	r := pack.Read(b)
	l := r.Ints()
	times := new(big.Int).Mul(big.NewInt(8), big.NewInt(int64(claim)))
	if claim < 0 || times.Cmp(big.NewInt(int64(len(tail)))) > 0 {
		if len(l) != 0 {
			t.Errorf("length %d, %d bytes left: Ints has %d numbers", claim, len(tail), len(l))
		}
		bad(t, "Ints that does not fit", r)
		return
	}
	want := make([]int, claim)
	for i := range want {
		want[i] = int(binary.BigEndian.Uint64(tail[8*i:]))
	}
	if !slices.Equal(l, want) {
		t.Errorf("length %d, %d bytes left: Ints %d, want %d", claim, len(tail), l, want)
	}
	if r.Bad() || r.Left() != len(tail)-8*claim {
		t.Errorf("length %d, %d bytes left: Ints leaves %d, Bad %t", claim, len(tail), r.Left(), r.Bad())
	}
}

// P2.2 and P2.3: no bytes at all.
func TestNoBytes(t *testing.T) {
	for _, b := range [][]byte{nil, {}, make([]byte, 0, 99)} {
		r := pack.Read(b)
		if r.Left() != 0 || r.Bad() || r.End() != api.OK {
			t.Errorf("no bytes: Left %d, Bad %t, End %d", r.Left(), r.Bad(), r.End())
		}
		if v := r.Int(); v != 0 {
			t.Errorf("no bytes: Int %d", v)
		}
		bad(t, "no bytes", r)
	}
}

// P2.2: what lies in the spare capacity of the bytes is not there to be read.
func TestSpareCapacityIsNotRead(t *testing.T) {
	b := eight(3)
	for _, n := range []int{0, 7} {
		r := pack.Read(b[:n])
		if r.Left() != n {
			t.Errorf("%d bytes: Left %d", n, r.Left())
		}
		if v := r.Int(); v != 0 {
			t.Errorf("%d bytes: Int %d", n, v)
		}
		bad(t, "bytes in the spare capacity", r)
	}
	whole := pack.Blob(nil, []byte{1, 2})
	r := pack.Read(whole[:9])
	if p := r.Blob(); len(p) != 0 {
		t.Errorf("a byte in the spare capacity: Blob %X", p)
	}
	bad(t, "a byte in the spare capacity", r)
}

// P2.3: step by step, and asking changes nothing.
func TestLeftBadAndEnd(t *testing.T) {
	b := pack.Ints(pack.Blob(pack.Int(nil, 5), []byte{1, 2, 3}), []int{6, 7})
	r := pack.Read(b)
	ask := func(left int, end api.Errno) {
		t.Helper()
		for range 2 {
			if r.Left() != left || r.Bad() || r.End() != end {
				t.Errorf("Left %d, Bad %t, End %d, want %d, false, %d", r.Left(), r.Bad(), r.End(), left, end)
			}
		}
	}
	ask(len(b), api.ErrLong)
	r.Int()
	ask(len(b)-8, api.ErrLong)
	r.Blob()
	ask(24, api.ErrLong)
	r.Ints()
	ask(0, api.OK)
	r.Ints()
	bad(t, "all was read", r)
}

// value is one that is encoded and decoded: a number, a byte string or a list.
type value struct {
	kind, number int
	bytes        []byte
	list         []int
}

func (v value) put(b []byte) []byte {
	switch v.kind {
	case 0:
		return pack.Int(b, v.number)
	case 1:
		return pack.Blob(b, v.bytes)
	}
	return pack.Ints(b, v.list)
}

// next reads a value of the kind that v has.
func (v value) next(r *pack.Reader) value {
	switch v.kind {
	case 0:
		return value{kind: 0, number: r.Int()}
	case 1:
		return value{kind: 1, bytes: r.Blob()}
	}
	return value{kind: 2, list: r.Ints()}
}

func (v value) equal(w value) bool {
	return v.kind == w.kind && v.number == w.number && bytes.Equal(v.bytes, w.bytes) && slices.Equal(v.list, w.list)
}

func (v value) empty() bool { return v.number == 0 && len(v.bytes) == 0 && len(v.list) == 0 }

func someValue(r *rand.Rand) value {
	all := numbers()
	v := value{kind: r.IntN(3)}
	switch v.kind {
	case 0:
		v.number = all[r.IntN(len(all))]
	case 1:
		v.bytes = row(r.Uint64(), r.IntN(20))
	case 2:
		for range r.IntN(4) {
			v.list = append(v.list, all[r.IntN(len(all))])
		}
	}
	return v
}

// mixes are series of values with their encodings; the first has none.
func mixes() ([][]value, [][]byte) {
	r := rand.New(rand.NewPCG(6, 6))
	series, codes := [][]value{nil}, [][]byte{nil}
	for n := range 120 {
		var s []value
		var b []byte
		for range 1 + n%7 {
			v := someValue(r)
			s, b = append(s, v), v.put(b)
		}
		series, codes = append(series, s), append(codes, b)
	}
	return series, codes
}

// P2.4
func TestRoundTrip(t *testing.T) {
	series, codes := mixes()
	for i, s := range series {
		r := pack.Read(codes[i])
		for j, v := range s {
			if got := v.next(r); !got.equal(v) {
				t.Errorf("series %d, value %d: %v, want %v", i, j, got, v)
			}
		}
		if r.Left() != 0 || r.Bad() || r.End() != api.OK {
			t.Errorf("series %d: Left %d, Bad %t, End %d", i, r.Left(), r.Bad(), r.End())
		}
	}
}

// P2.4: long values.
func TestRoundTripOfLongValues(t *testing.T) {
	p, l := row(7, 1<<20+3), list(8, 1<<17+1)
	r := pack.Read(pack.Int(pack.Ints(pack.Blob(nil, p), l), 12))
	same(t, "a long byte string", r.Blob(), p)
	if got := r.Ints(); !slices.Equal(got, l) {
		t.Errorf("a long list of %d numbers: another one, of %d", len(l), len(got))
	}
	if v := r.Int(); v != 12 || r.End() != api.OK {
		t.Errorf("behind them: Int %d, End %d", v, r.End())
	}
}

// P2.5: any number of bytes removed from the end: the values ahead of the cut are there, the one at the cut and those behind are empty.
func TestBytesCutOff(t *testing.T) {
	series, codes := mixes()
	for i, s := range series {
		for n := range codes[i] {
			r := pack.Read(codes[i][:n])
			for j, v := range s {
				got := v.next(r)
				if r.Bad() && !got.empty() || !r.Bad() && !got.equal(v) {
					t.Errorf("series %d cut to %d bytes, value %d: %v, Bad %t", i, n, j, got, r.Bad())
				}
			}
			bad(t, "cut off", r)
		}
	}
}

// P2.5: bytes added: the values are there, and the bytes are left.
func TestBytesAdded(t *testing.T) {
	series, codes := mixes()
	for i, s := range series {
		for _, n := range []int{1, 7, 8, 9, 100} {
			r := pack.Read(join(codes[i], row(9, n)))
			for j, v := range s {
				if got := v.next(r); !got.equal(v) {
					t.Errorf("series %d and %d bytes, value %d: %v, want %v", i, n, j, got, v)
				}
			}
			if r.Left() != n || r.Bad() || r.End() != api.ErrLong {
				t.Errorf("series %d and %d bytes: Left %d, Bad %t, End %d", i, n, r.Left(), r.Bad(), r.End())
			}
		}
	}
}

// plain is a reader by the document's words; it is held against the program's where the bytes are no encoding.
type plain struct {
	rest []byte
	bad  bool
}

func (p *plain) number() *big.Int {
	if p.bad || len(p.rest) < 8 {
		*p = plain{bad: true}
		return new(big.Int)
	}
	v := big.NewInt(int64(binary.BigEndian.Uint64(p.rest)))
	p.rest = p.rest[8:]
	return v
}

// span is the next bytes, as many as size times the next number.
func (p *plain) span(size int64) []byte {
	n := p.number()
	n.Mul(n, big.NewInt(size))
	if p.bad || n.Sign() < 0 || n.Cmp(big.NewInt(int64(len(p.rest)))) > 0 {
		*p = plain{bad: true}
		return nil
	}
	b := p.rest[:n.Int64()]
	p.rest = p.rest[n.Int64():]
	return b
}

func (p *plain) next(kind int) value {
	v := value{kind: kind}
	switch kind {
	case 0:
		v.number = int(p.number().Int64())
	case 1:
		v.bytes = p.span(1)
	case 2:
		for b := p.span(8); len(b) > 0; b = b[8:] {
			v.list = append(v.list, int(binary.BigEndian.Uint64(b)))
		}
	}
	return v
}

// spoilt is bytes of all sorts: encodings with a byte changed, taken out or put in, and rows in which small numbers are frequent.
func spoilt(r *rand.Rand, codes [][]byte) []byte {
	b := bytes.Clone(codes[r.IntN(len(codes))])
	if len(b) == 0 {
		return row(r.Uint64(), r.IntN(40))
	}
	at := r.IntN(len(b))
	switch r.IntN(4) {
	case 0:
		b[at] = byte(r.Uint32())
	case 1:
		b = slices.Delete(b, at, at+1)
	case 2:
		b = slices.Insert(b, at, byte(r.IntN(3)))
	case 3:
		for i := range b {
			b[i] = 0
			if i%8 == 7 {
				b[i] = byte(r.IntN(6))
			}
		}
	}
	return b
}

// P2.2 and P2.3: any bytes, read by any calls.
func TestAnyBytesByAnyCalls(t *testing.T) {
	_, codes := mixes()
	r := rand.New(rand.NewPCG(10, 10))
	for range 20000 {
		b := spoilt(r, codes)
		got, want := pack.Read(b), &plain{rest: b}
		for range 1 + r.IntN(8) {
			kind := r.IntN(3)
			v, w := value{kind: kind}.next(got), want.next(kind)
			if !v.equal(w) {
				t.Fatalf("%X: %v, want %v", b, v, w)
			}
			end := api.OK
			if want.bad {
				end = api.ErrForm
			} else if len(want.rest) > 0 {
				end = api.ErrLong
			}
			if got.Bad() != want.bad || got.Left() != len(want.rest) || got.End() != end {
				t.Fatalf("%X, kind %d: Bad %t, Left %d, End %d, want %t, %d, %d", b, kind, got.Bad(), got.Left(), got.End(), want.bad, len(want.rest), end)
			}
		}
	}
}

// roomy is a copy of b with a spare capacity that is full of AA.
func roomy(b []byte) []byte {
	return append(bytes.Clone(b), bytes.Repeat([]byte{0xAA}, 100)...)[:len(b)]
}

// unspoilt tells of a change of b or of its spare capacity.
func unspoilt(t *testing.T, what string, b, before []byte) {
	t.Helper()
	same(t, what, b, before)
	spare := b[len(b):cap(b)]
	same(t, what+", its spare capacity", spare[:100], bytes.Repeat([]byte{0xAA}, 100))
}

// R3: encoding changes no argument and writes behind none.
func TestEncodingLeavesArguments(t *testing.T) {
	for _, h := range heads() {
		for _, p := range [][]byte{nil, {1}, row(11, 99)} {
			b, q := roomy(h), roomy(p)
			l := append([]int{4, 5}, list(12, 20)...)[:2]
			spare := slices.Clone(l[2:22])
			pack.Int(b, 1)
			pack.Blob(b, q)
			pack.Ints(b, l)
			unspoilt(t, "b", b, h)
			unspoilt(t, "p", q, p)
			if !slices.Equal(l, []int{4, 5}) || !slices.Equal(l[2:22], spare) {
				t.Errorf("the list was changed: %d", l[:22])
			}
		}
	}
}

// R3: an encoding keeps nothing of the arguments, and no two of the same bytes share memory.
func TestEncodingsAreNewMemory(t *testing.T) {
	for _, h := range heads() {
		b, p, l := roomy(h), roomy([]byte{1, 2}), []int{3, 4}
		one, two, three := pack.Int(b, 7), pack.Blob(b, p), pack.Ints(b, l)
		fill(b[:cap(b)])
		fill(p[:cap(p)])
		clear(l)
		same(t, "Int", one, join(h, eight(7)))
		same(t, "Blob", two, join(h, eight(2), []byte{1, 2}))
		same(t, "Ints", three, join(h, encoded([]int{3, 4})))
		fill(one[:cap(one)])
		same(t, "Blob", two, join(h, eight(2), []byte{1, 2}))
		fill(two[:cap(two)])
		same(t, "Ints", three, join(h, encoded([]int{3, 4})))
		fill(three[:cap(three)])
		same(t, "b", b, bytes.Repeat([]byte{0x55}, len(b)))
	}
}

func fill(b []byte) {
	for i := range b {
		b[i] = 0x55
	}
}

// R3 and P2.2: a reader has the bytes as they were, even if they are changed between its calls.
func TestReaderKeepsTheBytes(t *testing.T) {
	plain := pack.Ints(pack.Blob(pack.Int(nil, 5), []byte{1, 2, 3}), []int{6, 7})
	for cut := range 4 {
		b := roomy(plain)
		r := pack.Read(b)
		if cut == 0 {
			fill(b[:cap(b)])
		}
		if v := r.Int(); v != 5 {
			t.Errorf("changed ahead of call %d: Int %d", cut, v)
		}
		if cut == 1 {
			fill(b[:cap(b)])
		}
		same(t, "Blob", r.Blob(), []byte{1, 2, 3})
		if cut == 2 {
			fill(b[:cap(b)])
		}
		if l := r.Ints(); !slices.Equal(l, []int{6, 7}) || r.End() != api.OK {
			t.Errorf("changed ahead of call %d: Ints %d, End %d", cut, l, r.End())
		}
	}
}

// R3: reading changes neither the bytes nor what lies behind them.
func TestReadingLeavesTheBytes(t *testing.T) {
	plain := pack.Ints(pack.Blob(pack.Int(nil, 5), []byte{1, 2, 3}), []int{6, 7})
	b := roomy(plain)
	r := pack.Read(b)
	r.Int()
	p := r.Blob()
	fill(p[:cap(p)])
	l := r.Ints()
	clear(l[:cap(l)])
	r.Int()
	unspoilt(t, "the bytes", b, plain)
}

// R3: a byte string and a list that were read may be changed and appended to; nothing else changes with them.
func TestReadValuesAreNewMemory(t *testing.T) {
	b := pack.Ints(pack.Ints(pack.Blob(pack.Blob(nil, []byte{1, 2, 3}), []byte{4, 5}), []int{6, 7}), []int{8})
	r, other := pack.Read(b), pack.Read(b)
	p := r.Blob()
	fill(append(p, 9, 9, 9, 9, 9, 9, 9, 9))
	fill(p[:cap(p)])
	q := r.Blob()
	same(t, "the second byte string", q, []byte{4, 5})
	fill(q[:cap(q)])
	same(t, "the first byte string", p, []byte{0x55, 0x55, 0x55})
	l := r.Ints()
	clear(append(l, 9, 9, 9))
	clear(l[:cap(l)])
	m := r.Ints()
	if !slices.Equal(m, []int{8}) || r.End() != api.OK {
		t.Errorf("the second list: %d, End %d", m, r.End())
	}
	clear(m[:cap(m)])
	if x, y := other.Blob(), other.Blob(); !bytes.Equal(x, []byte{1, 2, 3}) || !bytes.Equal(y, []byte{4, 5}) {
		t.Errorf("another reader of the same bytes: %X, %X", x, y)
	}
	if x, y := other.Ints(), other.Ints(); !slices.Equal(x, []int{6, 7}) || !slices.Equal(y, []int{8}) || other.End() != api.OK {
		t.Errorf("another reader of the same bytes: %d, %d, End %d", x, y, other.End())
	}
}

// R3: no reader reads a byte twice, so only a copy of one, which has the same memory, shows whether a result shares it.
func TestReadValuesShareNothingWithTheReader(t *testing.T) {
	r := pack.Read(pack.Ints(pack.Blob(nil, []byte{1, 2, 3}), []int{6, 7}))
	twin := *r
	p := r.Blob()
	fill(p[:cap(p)])
	same(t, "the twin's byte string", twin.Blob(), []byte{1, 2, 3})
	l := r.Ints()
	clear(l[:cap(l)])
	if m := twin.Ints(); !slices.Equal(m, []int{6, 7}) || twin.End() != api.OK {
		t.Errorf("the twin's list: %d, End %d", m, twin.End())
	}
}

// R4: two readers of the same bytes do not know of each other, and a call answers the same again.
func TestAnswersRecur(t *testing.T) {
	series, codes := mixes()
	for i, s := range series {
		var b []byte
		a, c := pack.Read(codes[i]), pack.Read(codes[i])
		for _, v := range s {
			b = v.put(b)
			if x, y := v.next(a), v.next(c); !x.equal(y) {
				t.Errorf("series %d: %v and %v", i, x, y)
			}
		}
		same(t, "the same values again", b, codes[i])
	}
}
