package post_test

import (
	"bytes"
	"fmt"
	"math"
	"math/bits"
	"math/rand/v2"
	"slices"
	"strings"
	"testing"

	"glebe/api"
	"glebe/post"
)

// The document's numbers; api's is held against it by TestLimits.
const (
	most  = 256
	links = 64
)

// places are addresses of all sorts, the ends of int among them.
var places = []int{math.MinInt, math.MinInt + 1, -1 << 32, -101, -2, -1, 0, 1, 2, 3, 12, 23, 99, 100, 101, 104, 1<<32 + 1, math.MaxInt - 1, math.MaxInt}

// far are numbers that are no index of any post.
var far = []int{math.MinInt, math.MinInt + 1, -1 << 32, -most, -2, -1, most, most + 1, 1 << 32, math.MaxInt - 1, math.MaxInt}

// row is the same n bytes at every run: what a test finds must be found again.
func row(seed uint64, n int) []byte {
	r := rand.New(rand.NewPCG(seed, uint64(n)))
	b := make([]byte, n)
	for i := range b {
		b[i] = byte(r.Uint32())
	}
	return b
}

func pk(from, to int, b ...byte) api.Packet { return api.Packet{From: from, To: to, Bytes: b} }

func same(a, b api.Packet) bool {
	return a.From == b.From && a.To == b.To && bytes.Equal(a.Bytes, b.Bytes)
}

// answers holds the error of a call against the one that is asked for.
func answers(t *testing.T, what string, got, want api.Errno) {
	t.Helper()
	if got != want {
		t.Errorf("%s: %d, want %d", what, got, want)
	}
}

func send(t *testing.T, p *post.Post, l ...api.Packet) {
	t.Helper()
	for _, x := range l {
		if e := p.Send(x); e != api.OK {
			t.Fatalf("Send of %v: %d", x, e)
		}
	}
}

func cut(t *testing.T, p *post.Post, a, b int) {
	t.Helper()
	if e := p.Cut(a, b); e != api.OK {
		t.Fatalf("Cut %d, %d: %d", a, b, e)
	}
}

func turn(t *testing.T, p *post.Post, i, bit int) {
	t.Helper()
	if e := p.Turn(i, bit); e != api.OK {
		t.Fatalf("Turn %d, %d: %d", i, bit, e)
	}
}

func double(t *testing.T, p *post.Post, i int) {
	t.Helper()
	if e := p.Double(i); e != api.OK {
		t.Fatalf("Double %d: %d", i, e)
	}
}

// lies holds what is in transit against what is asked for.
func lies(t *testing.T, what string, p *post.Post, want ...api.Packet) {
	t.Helper()
	if l := p.All(); !slices.EqualFunc(l, want, same) || p.Len() != len(want) {
		t.Errorf("%s: %d in transit, %v; want %v", what, p.Len(), l, want)
	}
}

func takes(t *testing.T, what string, p *post.Post, i int, want api.Packet) {
	t.Helper()
	if x, e := p.Take(i); !same(x, want) || e != api.OK {
		t.Errorf("%s: Take %d: %v, %d; want %v, OK", what, i, x, e, want)
	}
}

// takesNone holds Take against ErrNone, beside which there is no packet (R2).
func takesNone(t *testing.T, what string, p *post.Post, i int) {
	t.Helper()
	if x, e := p.Take(i); x.From != 0 || x.To != 0 || len(x.Bytes) != 0 || e != api.ErrNone {
		t.Errorf("%s: Take %d: %v, %d; want none, ErrNone", what, i, x, e)
	}
}

// passes reports whether a packet comes into transit, and takes it out again.
func passes(t *testing.T, n network, a, b int) bool {
	t.Helper()
	before := n.Len()
	if e := n.Send(pk(a, b, 1)); e != api.OK {
		t.Fatalf("Send from %d to %d: %d", a, b, e)
	}
	through := n.Len() > before
	n.Lose(before)
	return through
}

// network is what the program's post and the one by the document's words have in common.
type network interface {
	Send(x api.Packet) api.Errno
	Take(i int) (api.Packet, api.Errno)
	Lose(i int) api.Errno
	Double(i int) api.Errno
	Turn(i, bit int) api.Errno
	Cut(a, b int) api.Errno
	Join(a, b int) api.Errno
	Len() int
	All() []api.Packet
}

// step is a call of a script, with the words to tell it by; do tells what it answered.
type step struct {
	told string
	do   func(n network) string
}

// call is a step that answers nothing but an error.
func call(told string, do func(n network) api.Errno) step {
	return step{told, func(n network) string { return fmt.Sprint(int(do(n))) }}
}

func sends(from, to int, b ...byte) step {
	return call(fmt.Sprintf("Send %d to %d, %X", from, to, b), func(n network) api.Errno { return n.Send(pk(from, to, b...)) })
}

func take(i int) step {
	return step{fmt.Sprintf("Take %d", i), func(n network) string { return fmt.Sprint(n.Take(i)) }}
}

func loses(i int) step {
	return call(fmt.Sprintf("Lose %d", i), func(n network) api.Errno { return n.Lose(i) })
}

func doubles(i int) step {
	return call(fmt.Sprintf("Double %d", i), func(n network) api.Errno { return n.Double(i) })
}

func turns(i, bit int) step {
	return call(fmt.Sprintf("Turn %d, %d", i, bit), func(n network) api.Errno { return n.Turn(i, bit) })
}

func cuts(a, b int) step {
	return call(fmt.Sprintf("Cut %d, %d", a, b), func(n network) api.Errno { return n.Cut(a, b) })
}

func joins(a, b int) step {
	return call(fmt.Sprintf("Join %d, %d", a, b), func(n network) api.Errno { return n.Join(a, b) })
}

func told(script []step) string {
	var l []string
	for _, s := range script {
		l = append(l, s.told)
	}
	return strings.Join(l, "; ")
}

// run is a post on which a script was run.
func run(script ...step) *post.Post {
	p := post.New()
	for _, s := range script {
		s.do(p)
	}
	return p
}

// seen is what can be told of a post without changing it.
func seen(n network) string { return fmt.Sprint(n.Len(), n.All()) }

// hidden is what only further calls show: which packets are corrupted, which links are cut between some addresses, and how many in all. It spoils the post.
func hidden(t *testing.T, n network, between []int) string {
	var s strings.Builder
	for i := range n.Len() {
		fmt.Fprint(&s, int(n.Turn(i, 0)), " ")
	}
	for range n.Len() {
		n.Lose(0)
	}
	for i, a := range between {
		for _, b := range between[i:] {
			if !passes(t, n, a, b) {
				fmt.Fprintf(&s, "%d-%d ", a, b)
			}
		}
	}
	k := 0
	for n.Cut(5000, 5001+k) == api.OK && k < 2*links {
		k++
	}
	return fmt.Sprint(s.String(), k, " links can be cut")
}

// packets are n steps that put packets into transit, some of them alike, some with no bytes.
func packets(n int) []step {
	var l []step
	for i := range n {
		l = append(l, sends(1+i%7, 100+i%5, row(uint64(i), i%10)...))
	}
	return l
}

// linksCut are n steps that cut links, told in both orders.
func linksCut(n int) []step {
	var l []step
	for i := range n {
		if a, b := 200+i%8, 300+i/8; i%2 == 0 {
			l = append(l, cuts(a, b))
		} else {
			l = append(l, cuts(b, a))
		}
	}
	return l
}

// scripts lead to posts of all sorts.
func scripts() [][]step {
	return [][]step{
		nil,
		{sends(1, 2, 7)},
		{sends(1, 2)},
		{cuts(2, 1)},
		{sends(0, 0, 1, 2, 3), turns(0, 23), cuts(0, -1), cuts(math.MinInt, math.MaxInt)},
		{sends(1, 2, 7), sends(2, 1, 8), doubles(0), turns(0, 3), doubles(0), cuts(1, 2), sends(1, 2, 9), sends(1, 3, 10)},
		{sends(1, 2, row(1, 9)...), turns(0, 71), doubles(0), loses(0), cuts(3, 1), joins(1, 3), cuts(1, 2)},
		slices.Concat(packets(most-1), linksCut(links-1)),
		slices.Concat(packets(most), linksCut(links)),
		slices.Concat(packets(most), linksCut(links), []step{turns(3, 0), turns(most-1, 7), take(0), doubles(2), joins(300, 200), cuts(200, 300)}),
	}
}

func TestLimits(t *testing.T) {
	if api.MaxPost != most {
		t.Errorf("api has %d packets in transit, the document %d", api.MaxPost, most)
	}
}

// P6.1 to P6.5, the chapter's table, row by row on one post.
func TestExamples(t *testing.T) {
	p := post.New()
	answers(t, "Send 1 to 2, 07", p.Send(pk(1, 2, 7)), api.OK)
	answers(t, "Send 2 to 1, 08", p.Send(pk(2, 1, 8)), api.OK)
	answers(t, "Double 0", p.Double(0), api.OK)
	lies(t, "the first row", p, pk(1, 2, 7), pk(2, 1, 8), pk(1, 2, 7))

	answers(t, "Cut 2, 1", p.Cut(2, 1), api.OK)
	answers(t, "Send 1 to 2, 09", p.Send(pk(1, 2, 9)), api.OK)
	answers(t, "Send 1 to 3, 0A", p.Send(pk(1, 3, 10)), api.OK)
	lies(t, "the second row", p, pk(1, 2, 7), pk(2, 1, 8), pk(1, 2, 7), pk(1, 3, 10))
	answers(t, "Cut 1, 2", p.Cut(1, 2), api.ErrTwice)
	answers(t, "Cut 1, 1", p.Cut(1, 1), api.ErrRange)

	answers(t, "Turn 0, 3", p.Turn(0, 3), api.OK)
	answers(t, "Turn 0, 3", p.Turn(0, 3), api.ErrTwice)
	answers(t, "Turn 1, 8", p.Turn(1, 8), api.ErrRange)
	takes(t, "the third row", p, 0, pk(1, 2, 15))
	lies(t, "the third row", p, pk(2, 1, 8), pk(1, 2, 7), pk(1, 3, 10))

	answers(t, "Join 1, 2", p.Join(1, 2), api.OK)
	answers(t, "Join 1, 2", p.Join(1, 2), api.ErrNone)
	takesNone(t, "the fourth row", p, 9)
	lies(t, "the fourth row", p, pk(2, 1, 8), pk(1, 2, 7), pk(1, 3, 10))
}

// P6.1: a new post has no packets and no cut links.
func TestNew(t *testing.T) {
	p := post.New()
	if p == nil {
		t.Fatal("no post")
	}
	lies(t, "new", p)
	takesNone(t, "new", p, 0)
	answers(t, "Lose of none", p.Lose(0), api.ErrNone)
	answers(t, "Double of none", p.Double(0), api.ErrNone)
	answers(t, "Turn of none", p.Turn(0, 0), api.ErrNone)
	for _, a := range places {
		for _, b := range places {
			answers(t, fmt.Sprintf("new: Join %d, %d", a, b), p.Join(a, b), api.ErrNone)
			if !passes(t, p, a, b) {
				t.Errorf("new: a packet from %d to %d was lost", a, b)
			}
		}
	}
}

// P6.1 and P6.5: packets are appended, from and to all sorts of addresses, with no bytes, one and many.
func TestSendAppends(t *testing.T) {
	for _, n := range []int{0, 1, 2, 11, 1000, 65544} {
		p := post.New()
		var want []api.Packet
		for i, a := range places {
			for _, b := range []int{a, places[(i+5)%len(places)], places[len(places)-1-i]} {
				x := pk(a, b, row(uint64(len(want)), n)...)
				send(t, p, x)
				want = append(want, x)
				if l := p.All(); p.Len() != len(want) || !same(l[len(l)-1], x) {
					t.Errorf("packet %d, %d bytes, from %d to %d: not at the end", len(want), n, a, b)
				}
			}
		}
		lies(t, "sent", p, want...)
		for _, x := range want {
			takes(t, "sent", p, 0, x)
		}
		lies(t, "taken", p)
	}
}

// P6.1: equal packets, and those with nil for no bytes, are each a packet of its own.
func TestSendOfEqualPackets(t *testing.T) {
	p := post.New()
	x := pk(1, 2, 7)
	send(t, p, x, x, x, pk(1, 2), api.Packet{From: 1, To: 2, Bytes: []byte{}}, api.Packet{})
	lies(t, "equal ones", p, x, x, x, pk(1, 2), pk(1, 2), pk(0, 0))
	turn(t, p, 1, 0)
	lies(t, "one is corrupted", p, x, pk(1, 2, 6), x, pk(1, 2), pk(1, 2), pk(0, 0))
}

// P6.1 and P6.3: MaxPost packets fit; there is room again for as many as went.
func TestFull(t *testing.T) {
	for _, gone := range []int{1, 2, most} {
		p := post.New()
		var want []api.Packet
		for i := range most {
			x := pk(i, i+1, byte(i))
			answers(t, fmt.Sprintf("Send %d", i), p.Send(x), api.OK)
			want = append(want, x)
		}
		for range 2 {
			answers(t, "Send to a full post", p.Send(pk(1, 2)), api.ErrFull)
			answers(t, "Send to a full post, to itself", p.Send(pk(1, 1)), api.ErrFull)
			answers(t, "Double in a full post", p.Double(0), api.ErrFull)
			answers(t, "Double of the last one in a full post", p.Double(most-1), api.ErrFull)
			answers(t, "Turn in a full post", p.Turn(most-1, 8), api.ErrRange)
		}
		lies(t, "full", p, want...)
		for k := range gone {
			if k%2 == 0 {
				takes(t, "full", p, 0, want[k])
			} else {
				answers(t, "Lose in a full post", p.Lose(0), api.OK)
			}
		}
		want = want[gone:]
		for k := range gone {
			if x := pk(9, 8, byte(k)); k%2 == 0 || len(want) == 0 {
				answers(t, "Send after some went", p.Send(x), api.OK)
				want = append(want, x)
			} else {
				answers(t, "Double after some went", p.Double(0), api.OK)
				want = append(want, want[0])
			}
		}
		answers(t, "Send to a post that is full again", p.Send(pk(1, 2)), api.ErrFull)
		answers(t, "Double in a post that is full again", p.Double(0), api.ErrFull)
		lies(t, "full again", p, want...)
	}
}

// P6.1: the last packet that fits may come by a Double.
func TestFullByDouble(t *testing.T) {
	p := run(packets(most - 1)...)
	want := p.All()
	double(t, p, most-2)
	lies(t, "the last one was doubled", p, append(want, want[most-2])...)
	answers(t, "Send", p.Send(pk(1, 2)), api.ErrFull)
	answers(t, "Double", p.Double(5), api.ErrFull)
	p = post.New()
	send(t, p, pk(1, 2, 3))
	for k := range most - 1 {
		answers(t, fmt.Sprintf("Double %d", k), p.Double(k), api.OK)
	}
	answers(t, "Double", p.Double(0), api.ErrFull)
	lies(t, "all are copies", p, slices.Repeat([]api.Packet{pk(1, 2, 3)}, most)...)
}

// P6.1: over a cut link a packet is lost with OK, also while the post is full.
func TestSendOverACutLinkWhileFull(t *testing.T) {
	for _, n := range []int{0, 1, most - 1, most} {
		p := run(packets(n)...)
		want := p.All()
		cut(t, p, 2, 1)
		for _, x := range []api.Packet{pk(1, 2, 7), pk(2, 1, 7), pk(1, 2), pk(2, 1, row(1, 1000)...)} {
			answers(t, fmt.Sprintf("Send over a cut link, %d in transit", n), p.Send(x), api.OK)
			lies(t, fmt.Sprintf("a cut link, %d in transit", n), p, want...)
		}
		if n == most {
			answers(t, "Send over another link", p.Send(pk(1, 3)), api.ErrFull)
			answers(t, "Send to itself", p.Send(pk(1, 1)), api.ErrFull)
			answers(t, "Join", p.Join(1, 2), api.OK)
			answers(t, "Send over a joined link", p.Send(pk(1, 2)), api.ErrFull)
			lies(t, "full", p, want...)
		}
	}
}

// P6.2: each index of posts of all sizes, and what becomes of the indexes after it.
func TestTakeAndLoseAtEachIndex(t *testing.T) {
	for _, n := range []int{1, 2, 3, 8, most - 1, most} {
		for i := range n {
			p, q := run(packets(n)...), run(packets(n)...)
			all := p.All()
			rest := slices.Delete(slices.Clone(all), i, i+1)
			takes(t, fmt.Sprintf("%d in transit", n), p, i, all[i])
			lies(t, fmt.Sprintf("%d in transit, Take %d", n, i), p, rest...)
			answers(t, fmt.Sprintf("%d in transit: Lose %d", n, i), q.Lose(i), api.OK)
			lies(t, fmt.Sprintf("%d in transit, Lose %d", n, i), q, rest...)
			takesNone(t, "one is gone", p, n-1)
			answers(t, "one is gone: Lose", q.Lose(n-1), api.ErrNone)
			answers(t, "one is gone: Double", q.Double(n-1), api.ErrNone)
			answers(t, "one is gone: Turn", q.Turn(n-1, 0), api.ErrNone)
		}
	}
}

// P6.2: a corrupted packet is taken as it is, and whether those after it are corrupted goes along with them.
func TestTakeKeepsWhatIsCorrupted(t *testing.T) {
	for i := range 5 {
		for corrupted := range 1 << 5 {
			for _, away := range []step{take(i), loses(i)} {
				p := post.New()
				var want []api.Packet
				for k := range 5 {
					send(t, p, pk(k, 9, byte(k)))
					want = append(want, pk(k, 9, byte(k)))
					if corrupted>>k&1 == 1 {
						turn(t, p, k, 7)
						want[k].Bytes[0] ^= 0x80
					}
				}
				if away.told == take(i).told {
					takes(t, "some are corrupted", p, i, want[i])
				} else {
					answers(t, away.told, p.Lose(i), api.OK)
				}
				send(t, p, pk(5, 9, 5))
				want = append(slices.Delete(slices.Clone(want), i, i+1), pk(5, 9, 5))
				lies(t, away.told, p, want...)
				flags := corrupted&(1<<i-1) | corrupted>>(i+1)<<i
				for k := range 5 {
					e := api.OK
					if flags>>k&1 == 1 {
						e = api.ErrTwice
					}
					answers(t, fmt.Sprintf("corrupted %b, %s: Turn %d", corrupted, away.told, k), p.Turn(k, 0), e)
				}
			}
		}
	}
}

// P6.3: a copy is appended, of a packet at each index.
func TestDoubleAtEachIndex(t *testing.T) {
	for _, n := range []int{1, 2, 3, 8, most - 1} {
		for i := range n {
			p := run(packets(n)...)
			all := p.All()
			double(t, p, i)
			lies(t, fmt.Sprintf("%d in transit, Double %d", n, i), p, append(all, all[i])...)
		}
	}
}

// P6.3: a copy of a corrupted packet is corrupted, and so is a copy's copy; the packet that was copied remains as it is.
func TestDoubleOfACorruptedPacket(t *testing.T) {
	p := post.New()
	send(t, p, pk(1, 2, 7, 8), pk(3, 4, 9))
	turn(t, p, 0, 9)
	double(t, p, 0)
	double(t, p, 2)
	double(t, p, 1)
	x := pk(1, 2, 7, 10)
	lies(t, "doubled", p, x, pk(3, 4, 9), x, x, pk(3, 4, 9))
	for _, i := range []int{0, 2, 3} {
		for bit := range 16 {
			answers(t, fmt.Sprintf("Turn %d, %d", i, bit), p.Turn(i, bit), api.ErrTwice)
		}
	}
	lies(t, "turned again", p, x, pk(3, 4, 9), x, x, pk(3, 4, 9))
	turn(t, p, 4, 0)
	turn(t, p, 1, 1)
	lies(t, "those that were not corrupted", p, x, pk(3, 4, 11), x, x, pk(3, 4, 8))
}

// P6.3: a packet and its copy are corrupted each by itself.
func TestTurnBehindADouble(t *testing.T) {
	for _, first := range []int{0, 1} {
		p := post.New()
		send(t, p, pk(1, 2, 0, 0))
		double(t, p, 0)
		turn(t, p, first, 0)
		want := []api.Packet{pk(1, 2, 0, 0), pk(1, 2, 0, 0)}
		want[first].Bytes[0] = 1
		lies(t, fmt.Sprintf("Turn %d", first), p, want...)
		answers(t, "Turn of the corrupted one", p.Turn(first, 5), api.ErrTwice)
		turn(t, p, 1-first, 15)
		want[1-first].Bytes[1] = 0x80
		lies(t, fmt.Sprintf("Turn %d and %d", first, 1-first), p, want...)
		takes(t, "corrupted each by itself", p, 1, want[1])
		takes(t, "corrupted each by itself", p, 0, want[0])
	}
}

// P6.3: each bit of packets of some bytes, and no other one.
func TestTurnOfEachBit(t *testing.T) {
	for _, n := range []int{1, 2, 3, 9, 64} {
		for _, b := range [][]byte{make([]byte, n), bytes.Repeat([]byte{0xFF}, n), row(2, n)} {
			for bit := range 8 * n {
				p := post.New()
				send(t, p, pk(4, 5, b...), pk(1, 2, b...), pk(6, 7, b...))
				answers(t, fmt.Sprintf("%d bytes: Turn 1, %d", n, bit), p.Turn(1, bit), api.OK)
				want := pk(1, 2, bytes.Clone(b)...)
				want.Bytes[bit/8] ^= []byte{1, 2, 4, 8, 16, 32, 64, 128}[bit%8]
				lies(t, fmt.Sprintf("%d bytes, bit %d", n, bit), p, pk(4, 5, b...), want, pk(6, 7, b...))
			}
		}
	}
}

// P6.3: the bits of some packets, written out.
func TestTurnWrittenOut(t *testing.T) {
	for _, x := range []struct {
		bit        int
		before, is []byte
	}{
		{0, []byte{0}, []byte{1}}, {7, []byte{0}, []byte{0x80}}, {3, []byte{7}, []byte{15}}, {0, []byte{0xFF}, []byte{0xFE}},
		{7, []byte{0xFF}, []byte{0x7F}}, {7, []byte{0, 0}, []byte{0x80, 0}}, {8, []byte{0, 0}, []byte{0, 1}}, {15, []byte{0, 0}, []byte{0, 0x80}},
		{20, []byte{1, 2, 3}, []byte{1, 2, 0x13}},
	} {
		p := post.New()
		send(t, p, pk(1, 2, x.before...))
		turn(t, p, 0, x.bit)
		takes(t, fmt.Sprintf("bit %d of %X", x.bit, x.before), p, 0, pk(1, 2, x.is...))
	}
}

// noBits are bits that a packet of n bytes does not have.
func noBits(n int) []int {
	return []int{math.MinInt, math.MinInt + 1, -1 << 32, -9, -8, -7, -2, -1, 8 * n, 8*n + 1, 8*n + 7, 8*n + 8, 1<<32 + 8*n, 1 << 40, math.MaxInt - 7, math.MaxInt - 1, math.MaxInt}
}

// P6.3: bits that there are not, of packets of no bytes, one and many: ErrRange, also for a corrupted packet.
func TestTurnOfNoBit(t *testing.T) {
	for _, n := range []int{0, 1, 2, 11, 65544} {
		for _, corrupted := range []bool{false, true} {
			if n == 0 && corrupted {
				continue
			}
			p := post.New()
			x := pk(1, 2, row(3, n)...)
			send(t, p, pk(3, 4, row(4, 70000)...), x, pk(5, 6, row(5, 70000)...)) // greater ones beside it
			if corrupted {
				turn(t, p, 1, 8*n-1)
				x.Bytes[n-1] ^= 0x80
			}
			for _, bit := range noBits(n) {
				answers(t, fmt.Sprintf("%d bytes, corrupted %v: Turn 1, %d", n, corrupted, bit), p.Turn(1, bit), api.ErrRange)
			}
			lies(t, "no bit", p, pk(3, 4, row(4, 70000)...), x, pk(5, 6, row(5, 70000)...))
			if n > 0 && !corrupted {
				answers(t, "the last bit, behind bits that there are not", p.Turn(1, 8*n-1), api.OK)
			}
		}
	}
}

// P6.2 and P6.3: the indexes beside the list, of posts of all sizes.
func TestIndexesThatAreNone(t *testing.T) {
	for _, n := range []int{0, 1, 2, most - 1, most} {
		p := run(packets(n)...)
		want := p.All()
		for _, i := range append([]int{n, n + 1, n + 8, -n, -n - 1, 1<<32 + n/2}, far...) {
			if i >= 0 && i < n {
				continue
			}
			takesNone(t, fmt.Sprintf("%d in transit", n), p, i)
			answers(t, fmt.Sprintf("%d in transit: Lose %d", n, i), p.Lose(i), api.ErrNone)
			answers(t, fmt.Sprintf("%d in transit: Double %d", n, i), p.Double(i), api.ErrNone)
			for _, bit := range append([]int{0, 7}, noBits(1)...) {
				answers(t, fmt.Sprintf("%d in transit: Turn %d, %d", n, i, bit), p.Turn(i, bit), api.ErrNone)
			}
		}
		lies(t, "indexes that are none", p, want...)
	}
}

// P6.1, P6.4 and P6.7: one link out of all is cut, told in either order: no other one is, and it is one in both directions.
func TestCutIsOneLink(t *testing.T) {
	for _, a := range places {
		for _, b := range places {
			if a == b {
				continue
			}
			p := post.New()
			answers(t, fmt.Sprintf("Cut %d, %d", a, b), p.Cut(a, b), api.OK)
			answers(t, fmt.Sprintf("Cut %d, %d again", a, b), p.Cut(a, b), api.ErrTwice)
			answers(t, fmt.Sprintf("Cut %d, %d after %d, %d", b, a, a, b), p.Cut(b, a), api.ErrTwice)
			for _, c := range places {
				for _, d := range places {
					if want := c == a && d == b || c == b && d == a; passes(t, p, c, d) == want {
						t.Errorf("Cut %d, %d: a packet from %d to %d: lost is %v", a, b, c, d, !want)
					}
				}
			}
			lies(t, "all were taken out again", p)
			answers(t, fmt.Sprintf("Cut %d, %d; Join %d, %d", a, b, b, a), p.Join(b, a), api.OK)
			answers(t, fmt.Sprintf("Cut %d, %d; Join %d, %d twice", a, b, b, a), p.Join(b, a), api.ErrNone)
			answers(t, fmt.Sprintf("Cut %d, %d; Join %d, %d; Join %d, %d", a, b, b, a, a, b), p.Join(a, b), api.ErrNone)
			if !passes(t, p, a, b) || !passes(t, p, b, a) {
				t.Errorf("Cut %d, %d; Join: a packet was lost", a, b)
			}
		}
	}
}

// P6.4: a packet from an address to itself has no link: none is cut, none is joined, none holds it back.
func TestNoLinkToItself(t *testing.T) {
	p := post.New()
	for _, a := range places {
		for k := range 2 {
			answers(t, fmt.Sprintf("Cut %d, %d", a, a), p.Cut(a, a), api.ErrRange)
			answers(t, fmt.Sprintf("Join %d, %d", a, a), p.Join(a, a), api.ErrNone)
			if !passes(t, p, a, a) {
				t.Errorf("a packet from %d to itself was lost", a)
			}
			if b := 7; k == 0 {
				cut(t, p, a, b)
			}
		}
		answers(t, fmt.Sprintf("Join 7, %d", a), p.Join(7, a), api.OK)
	}
}

// P6.4: 64 links may be cut; a link that is joined makes room for one.
func TestMostLinks(t *testing.T) {
	for _, script := range [][]step{linksCut(links), packets(most), nil} {
		p := run(script...)
		n := 0
		if len(script) == links {
			n = links
		}
		for k := n; k < links; k++ {
			answers(t, fmt.Sprintf("Cut %d", k), p.Cut(200+k%8, 300+k/8), api.OK)
		}
		for _, l := range [][2]int{{1, 2}, {2, 1}, {200, 308}, {math.MinInt, math.MaxInt}, {0, -1}} {
			answers(t, fmt.Sprintf("64 are cut: Cut %d, %d", l[0], l[1]), p.Cut(l[0], l[1]), api.ErrMany)
			answers(t, fmt.Sprintf("64 are cut: Join %d, %d", l[0], l[1]), p.Join(l[0], l[1]), api.ErrNone)
		}
		for k := range links {
			a, b := 200+k%8, 300+k/8
			answers(t, fmt.Sprintf("64 are cut: Cut %d, %d", a, b), p.Cut(a, b), api.ErrTwice)
			answers(t, fmt.Sprintf("64 are cut: Cut %d, %d", b, a), p.Cut(b, a), api.ErrTwice)
			answers(t, fmt.Sprintf("64 are cut: Cut %d, %d", a, a), p.Cut(a, a), api.ErrRange)
		}
		for k := range links {
			a, b := 200+k%8, 300+k/8
			answers(t, fmt.Sprintf("64 are cut: Join %d, %d", b, a), p.Join(b, a), api.OK)
			answers(t, "one was joined: Cut of another", p.Cut(1, 400+k), api.OK)
			answers(t, "one was joined, another cut", p.Cut(a, b), api.ErrMany)
			answers(t, fmt.Sprintf("Join 1, %d", 400+k), p.Join(1, 400+k), api.OK)
			answers(t, fmt.Sprintf("Cut %d, %d again", a, b), p.Cut(a, b), api.OK)
			answers(t, "64 are cut again", p.Cut(1, 2), api.ErrMany)
		}
	}
}

// P6.1 and P6.4: each of 64 cut links loses packets both ways, and joining one ends that for this one alone.
func TestEachOfMostLinks(t *testing.T) {
	for joined := range links {
		p := run(linksCut(links)...)
		answers(t, "Join", p.Join(200+joined%8, 300+joined/8), api.OK)
		for k := range links {
			a, b := 200+k%8, 300+k/8
			if passes(t, p, a, b) != (k == joined) || passes(t, p, b, a) != (k == joined) {
				t.Errorf("link %d was joined, link %d: not as it must be", joined, k)
			}
		}
		for _, l := range [][2]int{{200, 201}, {300, 301}, {200, 200}, {300, 300}, {1, 200}} {
			if !passes(t, p, l[0], l[1]) || !passes(t, p, l[1], l[0]) {
				t.Errorf("a packet between %d and %d was lost", l[0], l[1])
			}
		}
	}
}

// P6.2, P6.3: what is in transit over a link that is cut then remains there, and is taken, lost, doubled and corrupted as before.
func TestPacketsInTransitWhenTheirLinkIsCut(t *testing.T) {
	p := post.New()
	send(t, p, pk(1, 2, 7), pk(2, 1, 8), pk(1, 2, 9), pk(1, 3, 10))
	cut(t, p, 1, 2)
	lies(t, "cut", p, pk(1, 2, 7), pk(2, 1, 8), pk(1, 2, 9), pk(1, 3, 10))
	takes(t, "cut", p, 0, pk(1, 2, 7))
	double(t, p, 0)
	turn(t, p, 1, 0)
	send(t, p, pk(2, 1, 11))
	lies(t, "cut, and some calls", p, pk(2, 1, 8), pk(1, 2, 8), pk(1, 3, 10), pk(2, 1, 8))
	answers(t, "Lose", p.Lose(1), api.OK)
	takes(t, "cut", p, 2, pk(2, 1, 8))
	answers(t, "Join", p.Join(2, 1), api.OK)
	lies(t, "joined", p, pk(2, 1, 8), pk(1, 3, 10))
	send(t, p, pk(2, 1, 11))
	lies(t, "joined: what was lost remains lost", p, pk(2, 1, 8), pk(1, 3, 10), pk(2, 1, 11))
}

// P6.7: a link is cut, joined and cut again, many times, told in either order; nothing of it is left behind.
func TestCutJoinCut(t *testing.T) {
	for n := range 8 {
		p := run(slices.Concat(linksCut(8*n), packets(3))...)
		want := p.All()
		for k := range 200 {
			a, b := 1, 2
			if k%3 == 0 {
				a, b = b, a
			}
			answers(t, "Cut", p.Cut(a, b), api.OK)
			for range 2 {
				send(t, p, pk(1, 2, byte(k)), pk(2, 1, byte(k)))
				lies(t, "cut", p, want...)
			}
			answers(t, "Cut of a cut one", p.Cut(1, 2), api.ErrTwice)
			if k%2 == 0 {
				a, b = b, a
			}
			answers(t, "Join", p.Join(a, b), api.OK)
			answers(t, "Join of a joined one", p.Join(1, 2), api.ErrNone)
			send(t, p, pk(1, 2, byte(k)))
			lies(t, "joined", p, append(slices.Clone(want), pk(1, 2, byte(k)))...)
			takes(t, "joined", p, 3, pk(1, 2, byte(k)))
		}
	}
}

// refusal is a call that a post refuses.
type refusal struct {
	s    step
	want string
}

func refused(s step, e api.Errno) refusal { return refusal{s, fmt.Sprint(int(e))} }

// refusals are calls that a post refuses that has so many packets and as many cut links as linksCut cuts; several errors apply to some of them.
func refusals(p *post.Post, cutLinks int) []refusal {
	var l []refusal
	n := p.Len()
	for _, i := range append([]int{n, n + 1, -n - 1}, far...) {
		if i >= 0 && i < n {
			continue
		}
		l = append(l, refusal{take(i), fmt.Sprint(api.Packet{}, api.ErrNone)})
		l = append(l, refused(loses(i), api.ErrNone), refused(doubles(i), api.ErrNone))
		for _, bit := range []int{0, 1, -1, 8, math.MinInt, math.MaxInt} {
			l = append(l, refused(turns(i, bit), api.ErrNone))
		}
	}
	if n == most {
		l = append(l, refused(sends(1, 2), api.ErrFull), refused(sends(0, 0, 1), api.ErrFull), refused(sends(-1, math.MaxInt, row(6, 500)...), api.ErrFull))
	}
	for i, x := range p.All() {
		if n == most {
			l = append(l, refused(doubles(i), api.ErrFull))
		}
		for _, bit := range noBits(len(x.Bytes)) {
			l = append(l, refused(turns(i, bit), api.ErrRange))
		}
		if i > 5 {
			break
		}
	}
	for _, a := range []int{200, 300, 0, 1, math.MinInt, math.MaxInt} {
		l = append(l, refused(cuts(a, a), api.ErrRange), refused(joins(a, a), api.ErrNone))
	}
	if cutLinks == links {
		l = append(l, refused(cuts(1, 2), api.ErrMany), refused(cuts(math.MaxInt, math.MinInt), api.ErrMany))
	}
	for k := range cutLinks {
		l = append(l, refused(cuts(200+k%8, 300+k/8), api.ErrTwice), refused(cuts(300+k/8, 200+k%8), api.ErrTwice))
	}
	return append(l, refused(joins(1, 2), api.ErrNone), refused(joins(200, 309), api.ErrNone), refused(joins(-1, 0), api.ErrNone))
}

// P6.1 to P6.4 and R2: the first error of those that apply, and nothing of the post is another.
func TestRefusedCallsChangeNothing(t *testing.T) {
	for _, n := range []int{0, 1, 2, most - 1, most} {
		for _, k := range []int{0, 1, links - 1, links} {
			script := append(slices.Concat(packets(n), linksCut(k)), turns(1, 0))
			p := run(script...)
			before := seen(p)
			for _, r := range refusals(p, k) {
				if got := r.s.do(p); got != r.want {
					t.Errorf("%d in transit, %d cut: %s: %s, want %s", n, k, r.s.told, got, r.want)
				}
				if after := seen(p); after != before {
					t.Fatalf("%d in transit, %d cut: %s: %s, before it %s", n, k, r.s.told, after, before)
				}
			}
			if after, want := hidden(t, p, places), hidden(t, run(script...), places); after != want {
				t.Errorf("%d in transit, %d cut, refused calls: %s, without them %s", n, k, after, want)
			}
		}
	}
}

// P6.3 and R2: a Turn of a corrupted packet changes nothing, be the bit another one or the same.
func TestTurnTwice(t *testing.T) {
	for bit := range 16 {
		for again := range 16 {
			p := post.New()
			send(t, p, pk(1, 2, 0x55, 0x55))
			turn(t, p, 0, bit)
			want := p.All()[0]
			for range 3 {
				answers(t, "Turn again", p.Turn(0, again), api.ErrTwice)
			}
			lies(t, "Turn again", p, want)
		}
	}
}

// P6.1 to P6.5: posts of all sorts, and what reads only: it changes nothing.
func TestLenAndAllChangeNothing(t *testing.T) {
	for _, script := range scripts() {
		p := run(script...)
		before := seen(p)
		for range 5 {
			p.Len()
			p.All()
		}
		if seen(p) != before || hidden(t, p, places) != hidden(t, run(script...), places) {
			t.Errorf("%s: another post behind Len and All", told(script))
		}
	}
}

// P6.6: sent, and taken from the index 0, packets arrive in order, whatever number is in transit meanwhile.
func TestArriveInOrder(t *testing.T) {
	for seed := range uint64(50) {
		r := rand.New(rand.NewPCG(seed, 7))
		p := post.New()
		sent, taken := 0, 0
		for range 2000 {
			if r.IntN(2) == 0 && sent-taken < most {
				send(t, p, pk(sent%3, 1+sent%2, byte(sent), byte(sent>>8)))
				sent++
			} else if taken < sent {
				takes(t, "in order", p, 0, pk(taken%3, 1+taken%2, byte(taken), byte(taken>>8)))
				taken++
			}
			if p.Len() != sent-taken {
				t.Fatalf("%d were sent, %d taken, %d are in transit", sent, taken, p.Len())
			}
		}
		for ; taken < sent; taken++ {
			takes(t, "the last ones", p, 0, pk(taken%3, 1+taken%2, byte(taken), byte(taken>>8)))
		}
		takesNone(t, "all were taken", p, 0)
	}
}

// inverted is the number of bits in which two packets differ; -1 if they differ in more.
func inverted(a, b api.Packet) int {
	if a.From != b.From || a.To != b.To || len(a.Bytes) != len(b.Bytes) {
		return -1
	}
	n := 0
	for i, c := range a.Bytes {
		n += bits.OnesCount8(c ^ b.Bytes[i])
	}
	return n
}

// P6.6: whatever is called, each packet in transit was sent, at most one bit of it inverted; and so was each that is taken.
func TestEveryPacketWasSent(t *testing.T) {
	for seed := range uint64(200) {
		r := rand.New(rand.NewPCG(seed, 8))
		p := post.New()
		var sent []api.Packet
		holds := func(x api.Packet) {
			if !slices.ContainsFunc(sent, func(y api.Packet) bool { n := inverted(x, y); return n == 0 || n == 1 }) {
				t.Fatalf("seed %d: %v was not sent", seed, x)
			}
		}
		for range 150 {
			switch i := r.IntN(p.Len() + 1); r.IntN(6) {
			case 0:
				if x, e := p.Take(i); e == api.OK {
					holds(x)
				}
			case 1, 2:
				p.Turn(i, r.IntN(80))
			case 3:
				p.Double(i)
			default:
				x := pk(r.IntN(3), r.IntN(3), row(r.Uint64(), 4+r.IntN(6))...)
				sent = append(sent, x)
				send(t, p, x)
			}
			for _, x := range p.All() {
				holds(x)
			}
		}
	}
}

// P6.7: while a link is cut, no packet that is sent over it comes into transit, whatever else is called; those over others do.
func TestNothingIsSentOverACutLink(t *testing.T) {
	for seed := range uint64(200) {
		r := rand.New(rand.NewPCG(seed, 9))
		p := post.New()
		cut(t, p, 2, 1)
		for k := range 100 {
			switch i := r.IntN(p.Len() + 1); r.IntN(5) {
			case 0:
				p.Lose(i)
			case 1:
				p.Double(i)
			case 2:
				if a, b := r.IntN(4), r.IntN(4); min(a, b) != 1 || max(a, b) != 2 {
					p.Cut(a, b)
					p.Join(b, a)
				}
			default:
				a, b := r.IntN(4), r.IntN(4)
				before := p.Len()
				send(t, p, pk(a, b, byte(k)))
				if lost := a+b == 3 && a*b == 2; (p.Len() == before) != lost {
					t.Fatalf("seed %d: a packet from %d to %d: lost is %v", seed, a, b, !lost)
				}
			}
		}
		for _, x := range p.All() {
			if x.From+x.To == 3 && x.From*x.To == 2 {
				t.Fatalf("seed %d: %v is in transit", seed, x)
			}
		}
	}
}

// flight is a packet in transit by the document's words: as it was sent, and the bit that is inverted, if one is.
type flight struct {
	from, to int
	sent     string
	bit      int
}

const noBit = -1

func (f flight) packet() api.Packet {
	b := []byte(f.sent)
	if f.bit != noBit {
		b[f.bit/8] ^= []byte{1, 2, 4, 8, 16, 32, 64, 128}[f.bit%8]
	}
	return pk(f.from, f.to, b...)
}

// pair is two addresses in the order in which a link was told.
type pair struct{ a, b int }

// spelt is a post by the document's words.
type spelt struct {
	list []flight
	cut  map[pair]bool
}

func words() *spelt { return &spelt{cut: map[pair]bool{}} }

func (p *spelt) at(i int) bool {
	for k := range p.list {
		if k == i {
			return true
		}
	}
	return false
}

func (p *spelt) isCut(a, b int) bool { return p.cut[pair{a, b}] || p.cut[pair{b, a}] }

func (p *spelt) Send(x api.Packet) api.Errno {
	if p.isCut(x.From, x.To) {
		return api.OK
	}
	if len(p.list) == most {
		return api.ErrFull
	}
	p.list = append(p.list, flight{x.From, x.To, string(x.Bytes), noBit})
	return api.OK
}

func (p *spelt) Take(i int) (api.Packet, api.Errno) {
	if !p.at(i) {
		return api.Packet{}, api.ErrNone
	}
	x := p.list[i].packet()
	var rest []flight
	for k, f := range p.list {
		if k != i {
			rest = append(rest, f)
		}
	}
	p.list = rest
	return x, api.OK
}

func (p *spelt) Lose(i int) api.Errno {
	_, e := p.Take(i)
	return e
}

func (p *spelt) Double(i int) api.Errno {
	if !p.at(i) {
		return api.ErrNone
	}
	if len(p.list) == most {
		return api.ErrFull
	}
	p.list = append(p.list, p.list[i])
	return api.OK
}

func (p *spelt) Turn(i, bit int) api.Errno {
	if !p.at(i) {
		return api.ErrNone
	}
	if bit < 0 || bit > 8*len(p.list[i].sent)-1 {
		return api.ErrRange
	}
	if p.list[i].bit != noBit {
		return api.ErrTwice
	}
	p.list[i].bit = bit
	return api.OK
}

func (p *spelt) Cut(a, b int) api.Errno {
	if a == b {
		return api.ErrRange
	}
	if p.isCut(a, b) {
		return api.ErrTwice
	}
	if len(p.cut) == links {
		return api.ErrMany
	}
	p.cut[pair{a, b}] = true
	return api.OK
}

func (p *spelt) Join(a, b int) api.Errno {
	if !p.isCut(a, b) {
		return api.ErrNone
	}
	delete(p.cut, pair{a, b})
	delete(p.cut, pair{b, a})
	return api.OK
}

func (p *spelt) Len() int { return len(p.list) }

func (p *spelt) All() []api.Packet {
	var l []api.Packet
	for _, f := range p.list {
		l = append(l, f.packet())
	}
	return l
}

// follow runs a script on a post and on the one by the words, and holds what they answer against each other; behind each call from the one at number from on all that can be seen, and at the end what is hidden.
func follow(t *testing.T, script []step, from int, between []int) {
	t.Helper()
	p, w := post.New(), words()
	for k, s := range script {
		got, want := s.do(p), s.do(w)
		if got != want || k >= from && !slices.EqualFunc(p.All(), w.All(), same) || p.Len() != w.Len() {
			t.Fatalf("%s: %s, %s; by the words %s, %s", told(script[:k+1]), got, seen(p), want, seen(w))
		}
	}
	if got, want := hidden(t, p, between), hidden(t, w, between); got != want {
		t.Fatalf("%s: %s; by the words %s", told(script), got, want)
	}
}

// P6.1 to P6.5, held against a post by the words: every script of four calls out of some.
func TestShortScriptsFollowTheWords(t *testing.T) {
	calls := []step{
		sends(1, 2, 7), sends(2, 1, 8, 9), sends(1, 1), take(0), loses(1), doubles(0), doubles(1),
		turns(0, 3), turns(0, 8), turns(1, 0), cuts(2, 1), cuts(1, 1), joins(1, 2),
	}
	k := len(calls)
	for at := range k * k * k * k {
		follow(t, []step{calls[at%k], calls[at/k%k], calls[at/k/k%k], calls[at/k/k/k]}, 0, []int{1, 2, 3})
	}
}

// one is any call for a post with about n packets, most of them of a kind that is performed.
func one(r *rand.Rand, n int) step {
	i := r.IntN(n+2) - 1
	if r.IntN(20) == 0 {
		i = far[r.IntN(len(far))]
	}
	a, b := places[r.IntN(len(places))], places[r.IntN(len(places))]
	if r.IntN(3) > 0 {
		a, b = r.IntN(4), r.IntN(4)
	}
	switch r.IntN(12) {
	case 0:
		return take(i)
	case 1:
		return loses(i)
	case 2, 3:
		return doubles(i)
	case 4, 5:
		return turns(i, r.IntN(40)-1)
	case 6:
		return turns(i, noBits(r.IntN(4))[r.IntN(17)])
	case 7:
		return cuts(a, b)
	case 8:
		return joins(a, b)
	}
	return sends(a, b, row(r.Uint64(), r.IntN(5))...)
}

// P6.1 to P6.5, held against a post by the words: long scripts of all sorts of calls.
func TestLongScriptsFollowTheWords(t *testing.T) {
	for seed := range uint64(1500) {
		r := rand.New(rand.NewPCG(seed, 10))
		var script []step
		for range 60 {
			script = append(script, one(r, 8))
		}
		follow(t, script, 0, places)
	}
}

// P6.1 to P6.5, held against a post by the words: scripts about a full post and the most links.
func TestFullScriptsFollowTheWords(t *testing.T) {
	for seed := range uint64(40) {
		r := rand.New(rand.NewPCG(seed, 11))
		script := slices.Concat(packets(most-r.IntN(6)), linksCut(links-r.IntN(4)))
		from := len(script) - 1
		for range 60 {
			s := one(r, most)
			if r.IntN(5) == 0 {
				s = linksCut(links)[r.IntN(links)]
			}
			script = append(script, s)
		}
		follow(t, script, from, places)
	}
}

// R4: the same calls have the same results, whatever came between.
func TestSameCallsSameResults(t *testing.T) {
	r := rand.New(rand.NewPCG(12, 12))
	var script []step
	for range 3000 {
		script = append(script, one(r, 30))
	}
	trace := func() string {
		p := post.New()
		var s strings.Builder
		for _, c := range script {
			fmt.Fprint(&s, c.do(p), p.Len())
		}
		return s.String() + seen(p) + hidden(t, p, places)
	}
	first := trace()
	for range 3 {
		run(script[:50]...)
		if trace() != first {
			t.Fatal("another answer the second time")
		}
	}
}

// Two posts have nothing in common: neither packets nor links.
func TestTwoPosts(t *testing.T) {
	for _, script := range scripts() {
		a, b := post.New(), run(script...)
		before := seen(b)
		send(t, a, pk(1, 2, 3))
		turn(t, a, 0, 0)
		cut(t, a, 50, 51)
		cut(t, a, 1, 2)
		if seen(b) != before {
			t.Errorf("%s: it hangs on another post", told(script))
		}
		if got, want := hidden(t, b, places), hidden(t, run(script...), places); got != want {
			t.Errorf("%s: it hangs on another post: %s, want %s", told(script), got, want)
		}
		lies(t, "the other one", a, pk(1, 2, 2))
	}
}

// spare is b with memory behind it that nothing may write into.
func spare(b []byte) []byte {
	return append(bytes.Clone(b), bytes.Repeat([]byte{0xAA}, 70)...)[:len(b)]
}

// untouched reports whether b, with all of its memory, is still what spare made of want.
func untouched(b, want []byte) bool {
	return bytes.Equal(b, want) && bytes.Equal(b[len(b):len(b)+70], bytes.Repeat([]byte{0xAA}, 70))
}

// fill writes into all the memory that b reaches.
func fill(b []byte) {
	b = b[:cap(b)]
	for i := range b {
		b[i] = 0x66
	}
}

// R3: Send neither changes nor keeps its packet's bytes, whatever becomes of the packet.
func TestMemoryOfSend(t *testing.T) {
	for _, n := range []int{0, 1, 8, 64, 1000} {
		want := row(13, n)
		b := spare(want)
		p := post.New()
		send(t, p, api.Packet{From: 1, To: 2, Bytes: b}, api.Packet{From: 3, To: 4, Bytes: b})
		double(t, p, 0)
		if n > 0 {
			turn(t, p, 0, 0)
			turn(t, p, 2, 8*n-1)
		}
		p.All()
		first, _ := p.Take(0)
		fill(first.Bytes)
		p.Lose(1)
		cut(t, p, 1, 2)
		send(t, p, api.Packet{From: 1, To: 2, Bytes: b})
		full := run(packets(most)...)
		answers(t, "Send to a full post", full.Send(api.Packet{From: 1, To: 2, Bytes: b}), api.ErrFull)
		if !untouched(b, want) {
			t.Errorf("Send of %d bytes: its argument or the memory behind it was changed", n)
		}
		lies(t, "one is left", p, pk(3, 4, want...))
		fill(b)
		lies(t, "the argument overwritten", p, pk(3, 4, want...))
		double(t, p, 0)
		takes(t, "the argument overwritten", p, 0, pk(3, 4, want...))
		takes(t, "a copy, the argument overwritten", p, 0, pk(3, 4, want...))
	}
}

// R3: what lies in the memory behind a packet's bytes is not the packet's.
func TestSendDoesNotReadBehindItsBytes(t *testing.T) {
	b := []byte{1, 2, 3, 4}
	for n := range 5 {
		p := post.New()
		send(t, p, api.Packet{From: 1, To: 2, Bytes: b[:n]})
		lies(t, "a part of a slice", p, pk(1, 2, b[:n]...))
		answers(t, "Turn of a bit behind it", p.Turn(0, 8*n), api.ErrRange)
	}
}

// R3: two packets from one slice share nothing in transit.
func TestPacketsOfOneSlice(t *testing.T) {
	b := []byte{0, 0, 0}
	p := post.New()
	send(t, p, api.Packet{From: 1, To: 2, Bytes: b}, api.Packet{From: 1, To: 2, Bytes: b[1:]}, api.Packet{From: 1, To: 2, Bytes: b[:1]})
	turn(t, p, 0, 8)
	turn(t, p, 2, 0)
	lies(t, "from one slice", p, pk(1, 2, 0, 1, 0), pk(1, 2, 0, 0), pk(1, 2, 1))
	if !bytes.Equal(b, []byte{0, 0, 0}) {
		t.Errorf("a Turn changed the argument of a Send: %X", b)
	}
}

// R3: what Take answers shares nothing with what is in transit, with a copy, or with another answer.
func TestMemoryOfTake(t *testing.T) {
	for _, n := range []int{0, 1, 8, 63, 1000} {
		x, y := pk(1, 2, row(14, n)...), pk(3, 4, row(15, n)...)
		p := post.New()
		send(t, p, x, y)
		double(t, p, 0)
		double(t, p, 0)
		all := p.All()
		first, _ := p.Take(0)
		second, _ := p.Take(1)
		fill(first.Bytes)
		lies(t, "an answer overwritten", p, y, x)
		if !same(second, x) || !slices.EqualFunc(all, []api.Packet{x, y, x, x}, same) {
			t.Errorf("Take of %d bytes: its answer shares memory with another one", n)
		}
		send(t, p, pk(5, 6, row(16, n)...))
		double(t, p, 1)
		if n > 0 {
			turn(t, p, 1, 0)
		}
		if !same(second, x) {
			t.Errorf("Take of %d bytes: its answer hangs on later calls", n)
		}
		takes(t, "the last one", p, 3, x)
	}
}

// R3: what All answers is new each time, list and bytes; a packet and its copy share nothing there either.
func TestMemoryOfAll(t *testing.T) {
	for _, n := range []int{0, 1, 8, 63, 1000} {
		x, y := pk(1, 2, row(17, n)...), pk(3, 4, row(18, n)...)
		want := []api.Packet{x, y, x, y}
		p := post.New()
		send(t, p, x, y)
		double(t, p, 0)
		double(t, p, 1)
		first, second := p.All(), p.All()
		fill(first[0].Bytes)
		if !slices.EqualFunc(first[1:], want[1:], same) {
			t.Errorf("All with %d bytes: packets of one answer share memory", n)
		}
		for i := range first {
			fill(first[i].Bytes)
			first[i] = pk(7, 7)
		}
		for l := first[len(first):cap(first)]; len(l) > 0; l = l[1:] {
			l[0] = pk(8, 8)
		}
		lies(t, "an answer overwritten", p, want...)
		if !slices.EqualFunc(second, want, same) {
			t.Errorf("All with %d bytes: its answer shares memory with another one", n)
		}
		if n > 0 {
			turn(t, p, 0, 0)
		}
		p.Lose(1)
		send(t, p, y)
		double(t, p, 0)
		if !slices.EqualFunc(second, want, same) {
			t.Errorf("All with %d bytes: its answer hangs on later calls", n)
		}
	}
}
