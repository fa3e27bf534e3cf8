package sums_test

import (
	"bytes"
	"hash/crc32"
	"math/rand/v2"
	"testing"

	"glebe/sums"
)

// The lengths beside the short ones: around the limits that api names, and a long row that no limit names.
var lengths = []int{0, 1, 2, 3, 4, 5, 7, 8, 9, 31, 32, 33, 63, 64, 65, 255, 256, 257, 4095, 4096, 4097, 1<<15 - 1, 1 << 15, 1<<16 - 1, 1 << 16, 1<<16 + 1, 1<<20 + 3}

var starts = []uint32{0, 1, 2, 0x80, 0xFF, 0x100, 0x7FFFFFFF, 0x80000000, 0x82F63B78, 0xE3069283, 0xDEADBEEF, 0xFFFFFFFE, 0xFFFFFFFF}

// row is the same n bytes at every run: what a test finds must be found again.
func row(seed uint64, n int) []byte {
	r := rand.New(rand.NewPCG(seed, uint64(n)))
	b := make([]byte, n)
	for i := range b {
		b[i] = byte(r.Uint32())
	}
	return b
}

func repeated(c byte, n int) []byte { return bytes.Repeat([]byte{c}, n) }

// inputs are rows of all sorts: none, every single byte, the examples, and rows of each length.
func inputs() [][]byte {
	l := [][]byte{nil, {}, []byte("123456789"), []byte("a"), []byte("a row of text, ä and 0 in it\x00\x00")}
	for c := range 256 {
		l = append(l, []byte{byte(c)})
	}
	for _, n := range lengths {
		l = append(l, repeated(0, n), repeated(0xFF, n), row(1, n))
	}
	return l
}

func xor(a, b []byte) []byte {
	c := make([]byte, len(a))
	for i := range c {
		c[i] = a[i] ^ b[i]
	}
	return c
}

// flipped is b with the bits inverted that pattern names, from the bit at on: byte by byte, in each from the lowest bit on.
func flipped(b []byte, at int, pattern uint32) []byte {
	c := bytes.Clone(b)
	for i := range 32 {
		if pattern>>i&1 == 1 {
			c[(at+i)/8] ^= 1 << ((at + i) % 8)
		}
	}
	return c
}

// spelt follows the words of P1.1, step for step, so that it can be held against the document.
func spelt(sum uint32, b []byte) uint32 {
	register := sum ^ 0xFFFFFFFF
	for _, c := range b {
		register = register&0xFFFFFF00 | (register&0xFF ^ uint32(c))
		for step := 1; step <= 8; step++ {
			if register%2 == 1 {
				register = register/2 ^ 0x82F63B78
			} else {
				register = register / 2
			}
		}
	}
	return register ^ 0xFFFFFFFF
}

// P1.1: held against the document's words and against the library's CRC-32C.
func TestMoreProcessesAllBytes(t *testing.T) {
	table := crc32.MakeTable(crc32.Castagnoli)
	for _, b := range inputs() {
		for _, s := range starts {
			if len(b) > 1<<16+1 && s != 0 && s != 0xDEADBEEF {
				continue // two starts are enough for the longest rows
			}
			got := sums.More(s, b)
			if want := spelt(s, b); got != want {
				t.Errorf("More(%08X, %d bytes %.8X..) = %08X, spelt out %08X", s, len(b), b, got, want)
			}
			if want := crc32.Update(s, table, b); got != want {
				t.Errorf("More(%08X, %d bytes %.8X..) = %08X, the library's %08X", s, len(b), b, got, want)
			}
		}
	}
}

// P1.1: without bytes the register is complemented twice.
func TestMoreOfNoBytesIsTheSum(t *testing.T) {
	for _, s := range starts {
		if got := sums.More(s, nil); got != s {
			t.Errorf("More(%08X, nil) = %08X", s, got)
		}
		if got := sums.More(s, []byte{}); got != s {
			t.Errorf("More(%08X, none) = %08X", s, got)
		}
	}
}

// P1.1: the order of the bytes counts, also far behind.
func TestMoreGoesInOrder(t *testing.T) {
	for _, n := range []int{2, 9, 64, 1 << 16} {
		b := row(2, n)
		b[n-2], b[n-1] = 1, 2
		c := bytes.Clone(b)
		c[n-2], c[n-1] = 2, 1
		if sums.More(7, b) == sums.More(7, c) {
			t.Errorf("%d bytes: the last two exchanged, and the same sum", n)
		}
	}
}

// P1.2, and the chapter's examples for both calls.
func TestExamples(t *testing.T) {
	for _, x := range []struct {
		name string
		b    []byte
		want uint32
	}{
		{"nil", nil, 0x00000000},
		{"none", []byte{}, 0x00000000},
		{"123456789", []byte("123456789"), 0xE3069283},
		{"a", []byte("a"), 0xC1D04330},
		{"32 bytes 00", make([]byte, 32), 0x8A9136AA},
	} {
		if got := sums.Of(x.b); got != x.want {
			t.Errorf("Of(%s) = %08X, want %08X", x.name, got, x.want)
		}
		if got := sums.More(0, x.b); got != x.want {
			t.Errorf("More(0, %s) = %08X, want %08X", x.name, got, x.want)
		}
	}
}

// P1.2
func TestOfIsMoreFromNought(t *testing.T) {
	for _, b := range inputs() {
		if got, want := sums.Of(b), sums.More(0, b); got != want {
			t.Errorf("Of(%d bytes %.8X..) = %08X, More(0, the same) = %08X", len(b), b, got, want)
		}
	}
}

// P1.3: cut at every place, the ends among them.
func TestPieces(t *testing.T) {
	for _, b := range [][]byte{nil, []byte("123456789"), []byte("a"), make([]byte, 32), row(3, 257)} {
		whole := sums.Of(b)
		for k := range len(b) + 1 {
			if got := sums.More(sums.Of(b[:k]), b[k:]); got != whole {
				t.Errorf("%d bytes, cut at %d: %08X, whole %08X", len(b), k, got, whole)
			}
		}
	}
}

// P1.3: of long rows, in two pieces and in many.
func TestPiecesOfLongRows(t *testing.T) {
	for _, n := range []int{1 << 15, 1 << 16, 1<<20 + 3} {
		b := row(4, n)
		whole := sums.Of(b)
		for _, k := range []int{0, 1, 63, n / 3, n / 2, n - 1, n} {
			if got := sums.More(sums.Of(b[:k]), b[k:]); got != whole {
				t.Errorf("%d bytes, cut at %d: %08X, whole %08X", n, k, got, whole)
			}
		}
		for _, size := range []int{1, 3, 40, 64, 1000} {
			sum := sums.Of(nil)
			for at := 0; at < n; at += size {
				sum = sums.More(sum, b[at:min(at+size, n)])
			}
			if sum != whole {
				t.Errorf("%d bytes in pieces of %d: %08X, whole %08X", n, size, sum, whole)
			}
		}
	}
}

// windows are the first bits of 32 consecutive ones: all of a short row's, of a long one those at its ends and about its middle.
func windows(n int) []int {
	var l []int
	for at := 0; at+32 <= 8*n; at++ {
		if n <= 64 || at < 17 || at+32 > 8*n-17 || at >= 4*n-9 && at < 4*n+9 {
			l = append(l, at)
		}
	}
	return l
}

// rank is how many of the words no exclusive or of others gives.
func rank(words []uint32) int {
	n := 0
	for bit := range 32 {
		at := -1
		for i := n; i < len(words); i++ {
			if words[i]>>bit&1 == 1 {
				at = i
				break
			}
		}
		if at < 0 {
			continue
		}
		words[n], words[at] = words[at], words[n]
		for i := range words {
			if i != n && words[i]>>bit&1 == 1 {
				words[i] ^= words[n]
			}
		}
		n++
	}
	return n
}

// P1.4, for all patterns at once: the sums are linear (P1.5), so two rows that differ in a window differ in their sums if and only if the changes that its 32 bits make are independent.
func TestEachBitOfAWindowCountsByItself(t *testing.T) {
	for _, n := range []int{4, 5, 9, 32, 64, 1 << 12} {
		b := row(5, n)
		for _, at := range windows(n) {
			words := make([]uint32, 32)
			for i := range words {
				words[i] = sums.Of(b) ^ sums.Of(flipped(b, at, 1<<i))
			}
			if r := rank(words); r != 32 {
				t.Errorf("%d bytes, the bits from %d on: only %d of 32 changes are independent", n, at, r)
			}
		}
	}
}

// P1.4, by patterns: single bits, whole windows and mixed ones.
func TestDifferencesCloseTogetherAreSeen(t *testing.T) {
	r := rand.New(rand.NewPCG(6, 6))
	patterns := []uint32{1, 3, 0x80000000, 0x80000001, 0xFFFFFFFF, 0x82F63B78, 0x1EDC6F41, 0x05EC76F1, 0xFF, 0xFF000000}
	for range 32 {
		patterns = append(patterns, r.Uint32()|1)
	}
	for _, n := range []int{4, 5, 9, 64, 1 << 12} {
		for _, b := range [][]byte{make([]byte, n), repeated(0xFF, n), row(7, n)} {
			sum := sums.Of(b)
			for _, at := range windows(n) {
				for _, p := range patterns {
					if sums.Of(flipped(b, at, p)) == sum {
						t.Errorf("%d bytes, pattern %08X from the bit %d on: the same sum", n, p, at)
					}
				}
			}
		}
	}
}

// P1.4, for rows that are shorter than a window, and single bits far into a long row.
func TestDifferencesInShortAndLongRowsAreSeen(t *testing.T) {
	seen := map[uint32]bool{}
	for v := range 1 << 16 {
		seen[sums.Of([]byte{byte(v), byte(v >> 8)})] = true
	}
	if len(seen) != 1<<16 {
		t.Errorf("all rows of two bytes: %d sums", len(seen))
	}
	b := row(8, 1<<20)
	sum := sums.Of(b)
	for _, bit := range []int{0, 1, 8 << 15, 8 << 16, 8<<16 + 5, 8<<20 - 1} {
		b[bit/8] ^= 1 << (bit % 8)
		if sums.Of(b) == sum {
			t.Errorf("a long row, bit %d: the same sum", bit)
		}
		b[bit/8] ^= 1 << (bit % 8)
	}
}

// P1.5
func TestLinearity(t *testing.T) {
	for _, n := range lengths {
		nought := sums.Of(make([]byte, n))
		for _, a := range [][]byte{make([]byte, n), repeated(0xFF, n), row(9, n)} {
			for _, b := range [][]byte{a, repeated(0x55, n), row(10, n)} {
				if got := sums.Of(a) ^ sums.Of(b) ^ sums.Of(xor(a, b)); got != nought {
					t.Errorf("%d bytes: %08X, of as many bytes 00 %08X", n, got, nought)
				}
			}
		}
	}
}

// R3 and R4: what is given stays as it is, and a call answers the same again whatever came between.
func TestArgumentsStayAndAnswersRecur(t *testing.T) {
	for _, n := range []int{0, 1, 9, 64, 4097} {
		b := row(11, n+16)
		before := bytes.Clone(b)
		of, more := sums.Of(b[:n]), sums.More(99, b[:n])
		sums.Of(row(12, 100))
		sums.More(1, nil)
		if sums.Of(b[:n]) != of || sums.More(99, b[:n]) != more {
			t.Errorf("%d bytes: another answer the second time", n)
		}
		if sums.Of(bytes.Clone(b[:n])) != of {
			t.Errorf("%d bytes: another answer for a copy", n)
		}
		if !bytes.Equal(b, before) {
			t.Errorf("%d bytes: the argument or what lies behind it was changed", n)
		}
	}
}
