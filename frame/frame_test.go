package frame_test

import (
	"bytes"
	"encoding/binary"
	"hash/crc32"
	"math/rand/v2"
	"slices"
	"testing"

	"glebe/api"
	"glebe/frame"
	"glebe/sums"
)

const limit = 65536 // the document's number, held against api's by TestLimit

// lengths are those of payloads: short ones, those about a byte's and a limit's end, and the longest.
var lengths = []int{0, 1, 2, 3, 4, 5, 7, 8, 9, 31, 32, 33, 64, 255, 256, 257, 4095, 4096, 1<<15 - 1, 1 << 15, 65535, 65536}

// row is the same n bytes at every run: what a test finds must be found again.
func row(seed uint64, n int) []byte {
	r := rand.New(rand.NewPCG(seed, uint64(n)))
	b := make([]byte, n)
	for i := range b {
		b[i] = byte(r.Uint32())
	}
	return b
}

// payloads are of all sorts and lengths.
func payloads() [][]byte {
	l := [][]byte{nil, {}, []byte("123456789"), {0, 0, 0, 0, 0, 0, 0, 0}}
	for _, n := range lengths {
		l = append(l, make([]byte, n), bytes.Repeat([]byte{0xFF}, n), row(1, n))
	}
	return append(l, framed(nil), framed([]byte{5}), framed(framed(row(2, 40))))
}

func join(l ...[]byte) []byte { return slices.Concat(l...) }

func four(v uint32) []byte { return binary.BigEndian.AppendUint32(nil, v) }

// crc is the library's checksum, so that the frames do not hang on package sums alone.
func crc(b []byte) uint32 { return crc32.Checksum(b, crc32.MakeTable(crc32.Castagnoli)) }

// claimed is like a frame, with the right checksum, of a length that need not be the payload's.
func claimed(length uint32, p []byte) []byte {
	return join(four(length), four(crc(join(four(length), p))), p)
}

// framed is a frame by the document's words.
func framed(p []byte) []byte { return claimed(uint32(len(p)), p) }

// spelt reads by the words of P3.2, one after the other.
func spelt(b []byte) ([]byte, int, api.Errno) {
	if len(b) < 8 {
		return nil, 0, api.ErrShort
	}
	says := int64(binary.BigEndian.Uint32(b))
	if says > limit {
		return nil, 0, api.ErrLong
	}
	if int64(len(b)-8) < says {
		return nil, 0, api.ErrShort
	}
	n := 8 + int(says)
	if crc(join(b[:4], b[8:n])) != binary.BigEndian.Uint32(b[4:]) {
		return nil, 0, api.ErrSum
	}
	return b[8:n], n, api.OK
}

func put(t *testing.T, p []byte) []byte {
	t.Helper()
	b, e := frame.Put(p)
	if e != api.OK {
		t.Fatalf("Put of %d bytes: %d", len(p), e)
	}
	return b
}

// gets holds Get of b against the payload and the number of bytes that are asked for.
func gets(t *testing.T, what string, b, want []byte, n int) {
	t.Helper()
	p, k, e := frame.Get(b)
	if !bytes.Equal(p, want) || k != n || e != api.OK {
		t.Errorf("%s: Get of %d bytes: %d bytes %.20X, %d, %d; want %d bytes %.20X, %d, OK", what, len(b), len(p), p, k, e, len(want), want, n)
	}
}

// fails holds Get of b against an error, beside which the other results are zero values (R2).
func fails(t *testing.T, what string, b []byte, want api.Errno) {
	t.Helper()
	if p, n, e := frame.Get(b); len(p) != 0 || n != 0 || e != want {
		t.Errorf("%s: Get of %d bytes %.20X: %d bytes %.20X, %d, %d; want none, 0, %d", what, len(b), b, len(p), p, n, e, want)
	}
}

func TestLimit(t *testing.T) {
	if api.MaxFrame != limit {
		t.Errorf("api.MaxFrame is %d, the document's %d", api.MaxFrame, limit)
	}
}

// P3.1 and P3.2, the chapter's table.
func TestExamples(t *testing.T) {
	for _, none := range [][]byte{nil, {}} {
		s := sums.Of(make([]byte, 4))
		want := []byte{0, 0, 0, 0, byte(s >> 24), byte(s >> 16), byte(s >> 8), byte(s)}
		if b, e := frame.Put(none); !bytes.Equal(b, want) || e != api.OK {
			t.Errorf("Put of none: %X, %d; want %X", b, e, want)
		}
	}
	if b, e := frame.Put(make([]byte, 65537)); len(b) != 0 || e != api.ErrLong {
		t.Errorf("Put of 65537 bytes: %d bytes, %d", len(b), e)
	}
	fails(t, "seven bytes", make([]byte, 7), api.ErrShort)
	fails(t, "00 01 00 01 and four bytes", []byte{0, 1, 0, 1, 0, 0, 0, 0}, api.ErrLong)
	fails(t, "00 00 00 01 and four bytes", []byte{0, 0, 0, 1, 0, 0, 0, 0}, api.ErrShort)
	fails(t, "a wrong checksum", []byte{0, 0, 0, 1, 0, 0, 0, 0, 5}, api.ErrSum)
}

// P3.1
func TestPutIsTheFrame(t *testing.T) {
	for _, p := range payloads() {
		b, e := frame.Put(p)
		if want := framed(p); !bytes.Equal(b, want) || e != api.OK {
			t.Errorf("Put of %d bytes %.20X: %d bytes %.20X, %d; want %d bytes %.20X", len(p), p, len(b), b, e, len(want), want)
		}
	}
	for c := range 256 {
		if b, e := frame.Put([]byte{byte(c)}); !bytes.Equal(b, framed([]byte{byte(c)})) || e != api.OK {
			t.Errorf("Put of %02X: %X, %d", c, b, e)
		}
	}
}

// P3.1 and R2: the longest payload has a frame, one byte more has none.
func TestPutOfTooMuch(t *testing.T) {
	if b, e := frame.Put(row(3, limit)); len(b) != limit+8 || e != api.OK {
		t.Errorf("Put of %d bytes: %d bytes, %d", limit, len(b), e)
	}
	for _, n := range []int{65537, 65538, 1<<17 - 1, 1 << 17, 1<<17 + 5, 1 << 20} {
		if b, e := frame.Put(row(3, n)); len(b) != 0 || e != api.ErrLong {
			t.Errorf("Put of %d bytes: %d bytes, %d; want none, ErrLong", n, len(b), e)
		}
	}
}

// P3.1: it is the length that counts, not the capacity.
func TestPutOfLittleInGreatMemory(t *testing.T) {
	b := row(4, 1<<17)
	for _, n := range []int{0, 1, limit} {
		if f, e := frame.Put(b[:n]); !bytes.Equal(f, framed(b[:n])) || e != api.OK {
			t.Errorf("Put of %d bytes of %d: %d bytes, %d", n, len(b), len(f), e)
		}
	}
}

// P3.2
func TestGetOfFrames(t *testing.T) {
	for _, p := range payloads() {
		b := framed(p)
		gets(t, "a frame", b, p, len(b))
	}
}

// P3.2: fewer than eight bytes are too few, whatever they say.
func TestGetOfTooFewForAHead(t *testing.T) {
	fails(t, "nil", nil, api.ErrShort)
	for _, b := range [][]byte{make([]byte, 8), bytes.Repeat([]byte{0xFF}, 8), {0, 1, 0, 1, 0, 0, 0, 0}, framed(nil), row(5, 8)} {
		for k := range 8 {
			fails(t, "fewer than eight bytes", b[:k], api.ErrShort)
		}
	}
}

// P3.2: what the first four bytes say, about the limit and far beyond it, with the bytes for it and without; the right checksum does not help.
func TestGetOfLengthsBeyondTheLimit(t *testing.T) {
	for _, says := range []uint32{65537, 65538, 1<<17 - 1, 1 << 17, 1 << 24, 1<<31 - 1, 1 << 31, 1<<31 + 1, 1<<32 - 8, 1<<32 - 1} {
		fails(t, "a length beyond the limit, nothing behind", claimed(says, nil), api.ErrLong)
		fails(t, "a length beyond the limit, a wrong checksum", join(four(says), make([]byte, 4)), api.ErrLong)
		fails(t, "a length beyond the limit, some bytes", claimed(says, row(6, 100)), api.ErrLong)
		fails(t, "a length beyond the limit, many bytes", claimed(says, row(6, 65538)), api.ErrLong)
		if says <= 1<<17 {
			fails(t, "a length beyond the limit, all of its bytes", claimed(says, row(6, int(says))), api.ErrLong)
		}
	}
}

// P3.2: one byte fewer than the first four say is too few, also with a wrong checksum; one more is left alone.
func TestGetAboutTheLength(t *testing.T) {
	for _, n := range lengths {
		p := row(7, n)
		b := framed(p)
		gets(t, "one byte more", join(b, []byte{0xEE}), p, n+8)
		if n == 0 {
			continue
		}
		fails(t, "one byte fewer", b[:n+7], api.ErrShort)
		fails(t, "one byte fewer, a checksum of what is there", claimed(uint32(n), p[:n-1]), api.ErrShort)
		b[4] ^= 1
		fails(t, "one byte fewer, a wrong checksum", b[:n+7], api.ErrShort)
		fails(t, "a wrong checksum", b, api.ErrSum)
		fails(t, "a wrong checksum, one byte more", join(b, []byte{0xEE}), api.ErrSum)
	}
	fails(t, "65536 and nothing behind", claimed(65536, nil), api.ErrShort)
	fails(t, "65536 and one byte fewer", claimed(65536, row(7, 65535)), api.ErrShort)
}

// P3.2: what lies in the memory behind b is not b's.
func TestGetDoesNotReadBehindItsArgument(t *testing.T) {
	for _, n := range []int{0, 1, 9, limit} {
		b := framed(row(8, n))
		for _, k := range []int{0, 1, 7, 8, n + 7} {
			if k < len(b) {
				fails(t, "the rest in the spare capacity", b[:k], api.ErrShort)
			}
		}
	}
}

// P3.2: the checksum is the one of the length and the payload, in big-endian order, and no other one.
func TestGetOfOtherChecksums(t *testing.T) {
	for _, n := range []int{0, 1, 4, 5, 256, limit} {
		p := row(9, n)
		right := crc(join(four(uint32(n)), p))
		for _, s := range []uint32{0, 1<<32 - 1, ^right, right + 1, right - 1, right<<8 | right>>24, crc(p), crc(join(p, four(uint32(n)))), crc32.ChecksumIEEE(join(four(uint32(n)), p))} {
			if s != right {
				fails(t, "another checksum", join(four(uint32(n)), four(s), p), api.ErrSum)
			}
		}
		turned := binary.LittleEndian.AppendUint32(nil, right)
		fails(t, "the checksum turned round", join(four(uint32(n)), turned, p), api.ErrSum)
	}
}

// P3.2, held against a reader by its words, on bytes of all sorts.
func TestGetFollowsTheWords(t *testing.T) {
	r := rand.New(rand.NewPCG(10, 10))
	for i := range 20000 {
		b := row(uint64(i), r.IntN(40))
		switch r.IntN(4) {
		case 1:
			b = claimed(uint32(r.IntN(40)), b)
		case 2:
			b = join(framed(b), row(uint64(i), r.IntN(10)))
		case 3:
			b = framed(b)
			b[r.IntN(len(b))] = byte(r.Uint32())
		}
		p, n, e := frame.Get(b)
		if wp, wn, we := spelt(b); !bytes.Equal(p, wp) || n != wn || e != we {
			t.Fatalf("Get of %X: %X, %d, %d; by the words %X, %d, %d", b, p, n, e, wp, wn, we)
		}
	}
}

// P3.3: whatever bytes follow; the payload framed again is what was consumed.
func TestRoundTrip(t *testing.T) {
	for _, p := range payloads() {
		b := put(t, p)
		for _, behind := range [][]byte{nil, {0}, {0xFF}, row(11, 9), make([]byte, 1000), b[:min(len(b), 300)]} {
			all := join(b, behind)
			gets(t, "what Put returned, and more", all, p, len(b))
			q, n, _ := frame.Get(all)
			if again := put(t, q); !bytes.Equal(again, all[:n]) {
				t.Errorf("%d bytes: framed again they are %d bytes %.20X, consumed were %d bytes", len(p), len(again), again, n)
			}
		}
	}
}

// P3.3: frames one behind the other are read one by one.
func TestManyFrames(t *testing.T) {
	var all []byte
	for _, p := range payloads() {
		all = append(all, put(t, p)...)
	}
	for i, want := range payloads() {
		p, n, e := frame.Get(all)
		if !bytes.Equal(p, want) || n != len(want)+8 || e != api.OK {
			t.Fatalf("frame %d: %d bytes, %d, %d; want %d bytes", i, len(p), n, e, len(want))
		}
		all = all[n:]
	}
	fails(t, "behind the last frame", all, api.ErrShort)
}

// P3.3: a frame that is cut off anywhere is none.
func TestNoPrefixIsAFrame(t *testing.T) {
	for _, p := range payloads() {
		b := put(t, p)
		for k := range b {
			fails(t, "a frame that is cut off", b[:k], api.ErrShort)
		}
	}
}

// turned is b with the bits inverted that pattern names, from the bit at on, byte by byte and in each from the lowest bit on.
func turned(b []byte, at int, pattern uint32) []byte {
	c := bytes.Clone(b)
	for i := range 32 {
		if pattern>>i&1 == 1 {
			c[(at+i)/8] ^= 1 << ((at + i) % 8)
		}
	}
	return c
}

// patterns are of 32 bits, the first of them inverted.
func patterns() []uint32 {
	l := []uint32{1, 3, 0x80000001, 0xFFFFFFFF, 0x82F63B79, 0x1EDC6F41, 0x05EC76F1, 0xFF, 0xFF000001, 0xFFFF0001}
	r := rand.New(rand.NewPCG(12, 12))
	for range 40 {
		l = append(l, r.Uint32()|1)
	}
	return l
}

// P3.4: each bit of the payload and of the checksum, alone.
func TestEachBitOfPayloadAndChecksum(t *testing.T) {
	for _, n := range []int{0, 1, 2, 3, 4, 5, 64, 300} {
		for _, p := range [][]byte{make([]byte, n), row(13, n)} {
			b := put(t, p)
			for bit := 32; bit < 8*len(b); bit++ {
				c := turned(b, bit, 1)
				fails(t, "a bit inverted", c, api.ErrSum)
				fails(t, "a bit inverted, bytes behind", join(c, []byte{1, 2, 3}), api.ErrSum)
			}
		}
	}
}

// P3.4: bits within 32 consecutive ones of the payload, wherever they lie.
func TestBitsCloseTogetherInThePayload(t *testing.T) {
	for _, n := range []int{4, 5, 9, 64} {
		for _, p := range [][]byte{make([]byte, n), bytes.Repeat([]byte{0xFF}, n), row(14, n)} {
			b := put(t, p)
			for at := 64; at+32 <= 8*len(b); at++ {
				for _, x := range patterns() {
					fails(t, "bits of the payload inverted", turned(b, at, x), api.ErrSum)
				}
			}
		}
	}
}

// P3.4: the longest payloads, at their ends and about their middle.
func TestBitsCloseTogetherInLongPayloads(t *testing.T) {
	for _, n := range []int{65535, 65536} {
		b := put(t, row(15, n))
		for _, at := range []int{64, 65, 71, 72, 4 * n, 4*n + 3, 8*n + 64 - 33, 8*n + 64 - 32} {
			for _, x := range patterns()[:12] {
				fails(t, "bits of a long payload inverted", turned(b, at, x), api.ErrSum)
			}
		}
	}
}

// P3.4: all changes there are to a payload that is shorter than a window.
func TestEachChangeOfAShortPayload(t *testing.T) {
	for _, n := range []int{1, 2} {
		b := put(t, row(16, n))
		for x := uint32(1); x < 1<<(8*n); x++ {
			fails(t, "a short payload changed", turned(b, 64, x), api.ErrSum)
		}
	}
}

// P3.4: the checksum's 32 bits are a window of their own.
func TestBitsOfTheChecksum(t *testing.T) {
	for _, n := range []int{0, 1, 4, 257, limit} {
		b := put(t, row(17, n))
		for _, x := range patterns() {
			for shift := 0; shift < 32; shift += 5 {
				if x<<shift != 0 {
					fails(t, "bits of the checksum inverted", turned(b, 32, x<<shift), api.ErrSum)
				}
			}
		}
	}
}

// P3.4: a bit of the length inverted, with nothing behind the frame and with the bytes for a greater length.
func TestEachBitOfTheLength(t *testing.T) {
	for _, n := range lengths {
		for _, p := range [][]byte{make([]byte, n), row(18, n)} {
			b := put(t, p)
			for bit := range 32 {
				c := turned(b, bit, 1)
				if _, k, e := frame.Get(c); e == api.OK && k >= len(b) {
					t.Errorf("%d bytes, bit %d of the length inverted: a frame of %d bytes", n, bit, k)
				}
				for _, behind := range [][]byte{make([]byte, 1<<16), row(19, 1<<16)} {
					if _, k, e := frame.Get(join(c, behind)); e == api.OK && k == len(b) {
						t.Errorf("%d bytes and more, bit %d of the length inverted: a frame of the same %d bytes", n, bit, k)
					}
				}
			}
		}
	}
}

// spare is b with memory behind it that nothing may write into.
func spare(b []byte) []byte {
	return append(bytes.Clone(b), bytes.Repeat([]byte{0xAA}, 64)...)[:len(b)]
}

// untouched reports whether b, with all of its memory, is still what spare made of want.
func untouched(b, want []byte) bool {
	return bytes.Equal(b, want) && bytes.Equal(b[len(b):len(b)+64], bytes.Repeat([]byte{0xAA}, 64))
}

// fill writes into all the memory that b reaches.
func fill(b []byte, c byte) {
	b = b[:cap(b)]
	for i := range b {
		b[i] = c
	}
}

// R3: arguments stay as they are, and share nothing with the results.
func TestMemoryOfPut(t *testing.T) {
	for _, n := range []int{0, 1, 9, 4096, limit, limit + 1} {
		want := row(20, n)
		p := spare(want)
		first, _ := frame.Put(p)
		second, _ := frame.Put(p)
		if !untouched(p, want) {
			t.Errorf("Put of %d bytes changed its argument or the memory behind it", n)
		}
		kept := bytes.Clone(second)
		fill(first, 0x77)
		if !untouched(p, want) || !bytes.Equal(second, kept) {
			t.Errorf("Put of %d bytes: its result shares memory with the argument or with another result", n)
		}
		fill(p, 0x66)
		if !bytes.Equal(second, kept) {
			t.Errorf("Put of %d bytes: its result hangs on the argument", n)
		}
	}
}

// R3
func TestMemoryOfGet(t *testing.T) {
	for _, n := range []int{0, 1, 9, 4096, limit} {
		for _, behind := range []int{0, 5} {
			payload := row(21, n)
			want := join(framed(payload), row(22, behind))
			b := spare(want)
			first, _, _ := frame.Get(b)
			second, _, _ := frame.Get(b)
			if !untouched(b, want) {
				t.Errorf("Get of %d bytes changed its argument or the memory behind it", len(b))
			}
			fill(first, 0x77)
			if !untouched(b, want) || !bytes.Equal(second, payload) {
				t.Errorf("Get of %d bytes: its payload shares memory with the argument or with another payload", len(b))
			}
			fill(b, 0x66)
			if !bytes.Equal(second, payload) {
				t.Errorf("Get of %d bytes: its payload hangs on the argument", len(b))
			}
		}
	}
}

// R3: a call that returns an error leaves its argument alone too.
func TestMemoryOfFailingCalls(t *testing.T) {
	wrong := framed([]byte{1, 2, 3})
	wrong[8] ^= 1
	for _, want := range [][]byte{nil, {0, 0, 0}, claimed(limit+1, nil), claimed(9, nil), wrong} {
		b := spare(want)
		if _, _, e := frame.Get(b); e == api.OK || !untouched(b, want) {
			t.Errorf("Get of %X: %d, or its argument is changed", want, e)
		}
	}
}

// R4: the same is answered again, whatever came between, and for a copy.
func TestAnswersRecur(t *testing.T) {
	for _, n := range []int{0, 1, 64, limit} {
		p := row(23, n)
		b := put(t, p)
		put(t, row(24, 100))
		frame.Get(b[:len(b)-1])
		if again := put(t, bytes.Clone(p)); !bytes.Equal(again, b) {
			t.Errorf("Put of %d bytes: another answer the second time", n)
		}
		gets(t, "once", b, p, n+8)
		frame.Get(framed(row(25, 30)))
		gets(t, "again", bytes.Clone(b), p, n+8)
	}
}
