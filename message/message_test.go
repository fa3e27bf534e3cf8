package message_test

import (
	"bytes"
	"encoding/binary"
	"hash/crc32"
	"math"
	"math/rand/v2"
	"reflect"
	"slices"
	"strings"
	"testing"

	"glebe/api"
	"glebe/message"
)

// The document's numbers, held against api's by TestLimits.
const (
	top      = 1 << 40
	longest  = 1 << 16 // bytes of an encoding
	most     = 1 << 10 // entries of a message
	lastKind = 11
)

// The chapter's functions, with these very signatures.
var (
	_ func(api.Msg) api.Errno           = message.Check
	_ func(api.Msg) ([]byte, api.Errno) = message.Put
	_ func([]byte) (api.Msg, api.Errno) = message.Get
)

// chapter is the chapter's table: the fields of each kind, in the order of their encoding.
var chapter = map[int]string{
	api.MVote:     "Group, Term, Index, Prev",
	api.MVoted:    "Group, Term, Ok",
	api.MAppend:   "Group, Term, Index, Prev, Commit, Round, Entries",
	api.MAppended: "Group, Term, Ok, Index, Round",
	api.MSnap:     "Group, Term, Index, Prev, Round, Data",
	api.MAsk:      "Group, Seq, Data",
	api.MTold:     "Group, Seq, Ok, Index, Data",
	api.MPrepare:  "Txn, Part, Ballot",
	api.MPromise:  "Txn, Part, Ballot, Ok, Index, Value",
	api.MPropose:  "Txn, Part, Ballot, Value",
	api.MAccepted: "Txn, Part, Ballot, Ok, Index, Value",
}

func fieldsOf(kind int) []string { return strings.Split(chapter[kind], ", ") }

// ends are numbers at the ends of int and of what a number may be.
var ends = []int{math.MinInt, -top, -1 << 32, -1, 0, 1, 2, 3, 4, 5, 6, 11, 12, 199, 200, 256, 1<<20 - 1, 1 << 20, 1<<32 + 1, top - 1, top, top + 1, 1 << 62, math.MaxInt}

// ranges are the least and the greatest number of the fields that do not go from 0 to top.
var ranges = map[string][2]int{"From": {1, 199}, "To": {1, 199}, "Group": {0, 4}, "Value": {0, 2}, "Txn": {1, top}, "Part": {1, 4}}

func inRange(name string, v int) bool {
	r, ok := ranges[name]
	if !ok {
		r = [2]int{0, top}
	}
	return v >= r[0] && v <= r[1]
}

// wantCheck is P12.1, word by word.
func wantCheck(m api.Msg) api.Errno {
	if m.Kind < 1 || m.Kind > lastKind {
		return api.ErrKind
	}
	has := append([]string{"Kind", "From", "To"}, fieldsOf(m.Kind)...)
	v := reflect.ValueOf(m)
	for i := range v.NumField() {
		x := v.Field(i)
		if !slices.Contains(has, v.Type().Field(i).Name) && !x.IsZero() && (x.Kind() != reflect.Slice || x.Len() > 0) {
			return api.ErrField
		}
	}
	for _, name := range has[1:] {
		if x := v.FieldByName(name); x.Kind() == reflect.Int && !inRange(name, int(x.Int())) {
			return api.ErrRange
		}
	}
	for _, e := range m.Entries {
		if e.Term < 0 || e.Term > top || e.Kind < 0 || e.Kind > 2 {
			return api.ErrRange
		}
	}
	if len(m.Entries) > most || len(wantBytes(m)) > longest {
		return api.ErrLong
	}
	return api.OK
}

func number(b []byte, v int) []byte { return binary.BigEndian.AppendUint64(b, uint64(v)) }

func blob(b, p []byte) []byte { return append(number(b, len(p)), p...) }

// wantBytes is the chapter's encoding of a message.
func wantBytes(m api.Msg) []byte {
	b := number(number(number(nil, m.Kind), m.From), m.To)
	for _, name := range fieldsOf(m.Kind) {
		switch name {
		case "Ok":
			b = number(b, map[bool]int{true: 1}[m.Ok])
		case "Entries":
			b = number(b, len(m.Entries))
			for _, e := range m.Entries {
				b = blob(number(number(b, e.Term), e.Kind), e.Data)
			}
		case "Data":
			b = blob(b, m.Data)
		default:
			b = number(b, int(reflect.ValueOf(m).FieldByName(name).Int()))
		}
	}
	return b
}

// framed is the frame of a payload: its length, its checksum and its bytes.
func framed(p []byte) []byte {
	b := binary.BigEndian.AppendUint32(nil, uint32(len(p)))
	sum := crc32.Checksum(append(bytes.Clone(b), p...), crc32.MakeTable(crc32.Castagnoli))
	return append(binary.BigEndian.AppendUint32(b, sum), p...)
}

// cursor reads numbers and byte strings; ok becomes false when it cannot.
type cursor struct {
	b  []byte
	ok bool
}

func (c *cursor) take(n int) []byte {
	if !c.ok || n < 0 || n > len(c.b) {
		c.ok = false
		return nil
	}
	p := c.b[:n]
	c.b = c.b[n:]
	return p
}

func (c *cursor) number() int {
	if p := c.take(8); c.ok {
		return int(binary.BigEndian.Uint64(p))
	}
	return 0
}

// wantDecode is P12.3 behind the frame.
func wantDecode(p []byte) (api.Msg, api.Errno) {
	c := &cursor{p, true}
	m := api.Msg{Kind: c.number(), From: c.number(), To: c.number()}
	if !c.ok {
		return api.Msg{}, api.ErrForm
	}
	if m.Kind < 1 || m.Kind > lastKind {
		return api.Msg{}, api.ErrKind
	}
	for _, name := range fieldsOf(m.Kind) {
		switch name {
		case "Ok":
			v := c.number()
			c.ok = c.ok && (v == 0 || v == 1)
			m.Ok = v == 1
		case "Entries":
			for n := c.number(); n != 0 && c.ok; n-- {
				m.Entries = append(m.Entries, api.Entry{Term: c.number(), Kind: c.number(), Data: c.take(c.number())})
			}
		case "Data":
			m.Data = c.take(c.number())
		default:
			reflect.ValueOf(&m).Elem().FieldByName(name).SetInt(int64(c.number()))
		}
	}
	if !c.ok || len(c.b) > 0 {
		return api.Msg{}, api.ErrForm
	}
	if e := wantCheck(m); e != api.OK {
		return api.Msg{}, e
	}
	return m, api.OK
}

func same(a, b api.Msg) bool {
	if !bytes.Equal(a.Data, b.Data) || !slices.EqualFunc(a.Entries, b.Entries, func(x, y api.Entry) bool {
		return x.Term == y.Term && x.Kind == y.Kind && bytes.Equal(x.Data, y.Data)
	}) {
		return false
	}
	a.Entries, a.Data, b.Entries, b.Data = nil, nil, nil, nil
	return reflect.DeepEqual(a, b)
}

func clone(m api.Msg) api.Msg {
	m.Entries, m.Data = slices.Clone(m.Entries), bytes.Clone(m.Data)
	for i := range m.Entries {
		m.Entries[i].Data = bytes.Clone(m.Entries[i].Data)
	}
	return m
}

// tell is a message in short, for what a test writes.
func tell(m api.Msg) api.Msg {
	m.Entries, m.Data = m.Entries[:min(3, len(m.Entries))], m.Data[:min(8, len(m.Data))]
	return m
}

// holdCheck holds Check and Put of a message against the chapter's words, and, if it may be sent, Get of its bytes.
func holdCheck(t *testing.T, m api.Msg) {
	t.Helper()
	want := wantCheck(m)
	if e := message.Check(m); e != want {
		t.Fatalf("Check of %+v: %d, not %d", tell(m), e, want)
	}
	b, e := message.Put(m)
	if e != want || e != api.OK && b != nil {
		t.Fatalf("Put of %+v: %d bytes, %d, not %d", tell(m), len(b), e, want)
	}
	if e != api.OK {
		return
	}
	if !bytes.Equal(b, framed(wantBytes(m))) {
		t.Fatalf("Put of %+v: %x, not %x", tell(m), b, framed(wantBytes(m)))
	}
	if x, e := message.Get(b); e != api.OK || !same(x, m) {
		t.Fatalf("Get of Put of %+v: %+v, %d", tell(m), tell(x), e)
	}
}

// holdGet holds Get of the frame of a payload against the chapter's words, and, if it is a message, Put of that.
func holdGet(t *testing.T, p []byte) api.Errno {
	t.Helper()
	b := framed(p)
	wantMsg, want := wantDecode(p)
	m, e := message.Get(b)
	if e != want || !same(m, wantMsg) {
		t.Fatalf("Get of the frame of %x: %+v, %d, not %+v, %d", p[:min(200, len(p))], tell(m), e, tell(wantMsg), want)
	}
	if e != api.OK {
		if !reflect.ValueOf(m).IsZero() {
			t.Fatalf("Get of the frame of %x: beside %d: %+v", p, e, m)
		}
		return e
	}
	if again, e := message.Put(m); e != api.OK || !bytes.Equal(again, b) {
		t.Fatalf("Put of Get of the frame of %x: %x, %d", p, again, e)
	}
	return e
}

// plain is a message of a kind, each field of which says something that no other one says.
func plain(kind int) api.Msg {
	m := api.Msg{Kind: kind, From: 103, To: 5}
	for i, name := range fieldsOf(kind) {
		switch name {
		case "Ok":
			m.Ok = true
		case "Entries":
			m.Entries = []api.Entry{{Term: 61, Kind: 1, Data: []byte{62, 63}}, {Term: 64, Kind: 2}, {Term: 65, Data: []byte{66}}}
		case "Data":
			m.Data = []byte{71, 72, 73}
		case "Group", "Part":
			reflect.ValueOf(&m).Elem().FieldByName(name).SetInt(4)
		case "Value":
			m.Value = 2
		default:
			reflect.ValueOf(&m).Elem().FieldByName(name).SetInt(int64(1000 + i))
		}
	}
	return m
}

// turn is a change of one field of a message.
type turn func(m *api.Msg)

// turns is, for each field, changes of it to what it may be and to what it may not be.
func turns() [][]turn {
	var all [][]turn
	of := reflect.TypeFor[api.Msg]()
	for i := range of.NumField() {
		var l []turn
		switch of.Field(i).Type.Kind() {
		case reflect.Int:
			for _, v := range ends {
				l = append(l, func(m *api.Msg) { reflect.ValueOf(m).Elem().Field(i).SetInt(int64(v)) })
			}
		case reflect.Bool:
			l = append(l, func(m *api.Msg) { m.Ok = false }, func(m *api.Msg) { m.Ok = true })
		}
		all = append(all, l)
	}
	for _, e := range [][]api.Entry{nil, {}, {{}}, {{Term: top, Kind: 2, Data: []byte{1}}}, {{}, {Term: -1}}, {{Term: top + 1}, {}}, {{Kind: 3}}, {{}, {}, {Kind: -1}}, make([]api.Entry, most), make([]api.Entry, most+1)} {
		all[len(all)-2] = append(all[len(all)-2], func(m *api.Msg) { m.Entries = e })
	}
	for _, b := range [][]byte{nil, {}, {0}, make([]byte, longest-64), make([]byte, longest+1)} {
		all[len(all)-1] = append(all[len(all)-1], func(m *api.Msg) { m.Data = b })
	}
	return all
}

func TestLimits(t *testing.T) {
	if api.MaxNumber != top || api.MaxFrame != longest || api.MaxEntries != most || api.MaxGroups != 4 {
		t.Error("the limits are not the document's")
	}
	if api.MVote != 1 || api.MAccepted != lastKind || api.ENoop != 0 || api.EConf != 2 {
		t.Error("the kinds are not the document's")
	}
	if of := reflect.TypeFor[api.Msg](); of.NumField() != 17 || of.Field(15).Name != "Entries" || of.Field(16).Name != "Data" {
		t.Error("a message has other fields")
	}
}

func TestExamples(t *testing.T) {
	p := api.Msg{Kind: api.MPrepare, From: 1, To: 2, Txn: 9, Part: 3, Ballot: 5}
	b, e := message.Put(p)
	if len(b) != 56 || e != api.OK {
		t.Error("Put of the first one:", len(b), e)
	}
	of := func(f turn) api.Msg {
		m := p
		f(&m)
		return m
	}
	for i, x := range []struct {
		m api.Msg
		e api.Errno
	}{
		{of(func(m *api.Msg) { m.Term = 1 }), api.ErrField},
		{of(func(m *api.Msg) { m.Part = 0 }), api.ErrRange},
		{of(func(m *api.Msg) { m.Part = 5 }), api.ErrRange},
		{of(func(m *api.Msg) { m.Value = 1 }), api.ErrField},
		{of(func(m *api.Msg) { m.To = 200 }), api.ErrRange},
		{api.Msg{Kind: 12}, api.ErrKind},
		{api.Msg{Kind: api.MAppend, From: 1, To: 2, Entries: []api.Entry{{Kind: 3}}}, api.ErrRange},
	} {
		if e := message.Check(x.m); e != x.e {
			t.Error("example", i, e)
		}
	}
	if _, e := message.Get(nil); e != api.ErrShort {
		t.Error("Get of none:", e)
	}
	if _, e := message.Get(append(b, 0)); e != api.ErrLong {
		t.Error("Get of a byte more:", e)
	}
}

// Two encodings written out by hand, so that they hang on no code at all.
func TestBytes(t *testing.T) {
	m := api.Msg{Kind: api.MAppended, From: 1, To: 199, Group: 4, Term: 5, Ok: true, Index: 6, Round: 7}
	want := []byte{0, 0, 0, 64, 0, 0, 0, 0}
	for _, v := range []byte{4, 1, 199, 4, 5, 1, 6, 7} {
		want = append(want, 0, 0, 0, 0, 0, 0, 0, v)
	}
	b, e := message.Put(m)
	copy(want[4:8], b[4:8])
	if e != api.OK || !bytes.Equal(b, want) {
		t.Errorf("MAppended: %x, not %x", b, want)
	}
	m = api.Msg{Kind: api.MAppend, From: 1, To: 2, Group: 3, Term: 4, Index: 5, Prev: 6, Commit: 7, Round: 8, Entries: []api.Entry{{Term: 9, Kind: 2, Data: []byte{10}}, {}}}
	want = []byte{0, 0, 0, 129, 0, 0, 0, 0}
	for _, v := range []byte{3, 1, 2, 3, 4, 5, 6, 7, 8, 2, 9, 2, 1} {
		want = append(want, 0, 0, 0, 0, 0, 0, 0, v)
	}
	want = append(append(want, 10), make([]byte, 24)...)
	b, e = message.Put(m)
	copy(want[4:8], b[4:8])
	if e != api.OK || !bytes.Equal(b, want) {
		t.Errorf("MAppend: %x, not %x", b, want)
	}
}

// P12.1, P12.2: each kind, with each two changes of fields at once.
func TestCheckTurns(t *testing.T) {
	all := turns()
	for kind := 1; kind <= lastKind; kind++ {
		holdCheck(t, plain(kind))
		holdCheck(t, api.Msg{Kind: kind})
		for i, l := range all {
			for _, f := range l {
				m := plain(kind)
				f(&m)
				holdCheck(t, m)
				for _, k := range all[:i] {
					for _, g := range k {
						x := m
						g(&x)
						if e, want := message.Check(x), wantCheck(x); e != want {
							t.Fatalf("Check of %+v: %d, not %d", tell(x), e, want)
						}
					}
				}
			}
		}
	}
}

// P12.1: a kind that is none stands ahead of all else.
func TestNoKind(t *testing.T) {
	for _, kind := range append([]int{0, -11, lastKind + 1, lastKind + 2, 1 << 8, 257}, ends...) {
		m := api.Msg{Kind: kind, From: 1, To: 2}
		if kind >= 1 && kind <= lastKind {
			continue
		}
		holdCheck(t, m)
		holdCheck(t, api.Msg{Kind: kind, From: 200, Term: -1, Ok: true, Entries: make([]api.Entry, most+1), Data: make([]byte, longest+1)})
	}
}

// P12.1: every other order of what is wrong at once: ErrKind, ErrField, ErrRange, ErrLong.
func TestOrderOfErrors(t *testing.T) {
	long := []api.Entry{{Term: top + 1}}
	for _, x := range []struct {
		name string
		m    api.Msg
		e    api.Errno
	}{
		{"foreign ahead of range", api.Msg{Kind: api.MVote, From: 0, To: 2, Ok: true}, api.ErrField},
		{"foreign ahead of long", api.Msg{Kind: api.MAppend, From: 1, To: 2, Ok: true, Entries: make([]api.Entry, most+1)}, api.ErrField},
		{"foreign and out of range itself", api.Msg{Kind: api.MAsk, From: 1, To: 2, Part: -1}, api.ErrField},
		{"foreign and too long itself", api.Msg{Kind: api.MAsk, From: 1, To: 2, Entries: make([]api.Entry, most+1)}, api.ErrField},
		{"range ahead of too many", api.Msg{Kind: api.MAppend, From: 1, To: 2, Entries: append(make([]api.Entry, most), long...)}, api.ErrRange},
		{"range ahead of too long", api.Msg{Kind: api.MAsk, From: 1, To: 2, Group: 5, Data: make([]byte, longest)}, api.ErrRange},
		{"an entry out of range and too long", api.Msg{Kind: api.MAppend, From: 1, To: 2, Entries: []api.Entry{{Data: make([]byte, longest)}, {Kind: 3}}}, api.ErrRange},
		{"too many", api.Msg{Kind: api.MAppend, From: 1, To: 2, Entries: make([]api.Entry, most+1)}, api.ErrLong},
	} {
		if e := message.Check(x.m); e != x.e {
			t.Error(x.name, e)
		}
		if b, e := message.Put(x.m); e != x.e || b != nil {
			t.Error("Put", x.name, e)
		}
	}
}

// P12.1: the encoding may have as many bytes as a frame's payload, and not one more.
func TestLongest(t *testing.T) {
	for _, kind := range []int{api.MSnap, api.MAsk, api.MTold} {
		m := plain(kind)
		m.Data = nil
		room := longest - len(wantBytes(m))
		for _, more := range []int{-1, 0, 1, 2, 8} {
			m.Data = bytes.Repeat([]byte{3}, room+more)
			holdCheck(t, m)
			if e := message.Check(m); (e == api.OK) != (more <= 0) {
				t.Error(kind, more, e)
			}
		}
	}
	for _, n := range []int{1, 2, 3, 100, most - 1, most} {
		m := plain(api.MAppend)
		m.Entries = make([]api.Entry, n)
		room := longest - len(wantBytes(m))
		for _, more := range []int{-1, 0, 1, 2, 8} {
			for i := range n {
				m.Entries[i] = api.Entry{Term: i, Kind: i % 3, Data: bytes.Repeat([]byte{byte(i)}, room/n)}
			}
			m.Entries[n/2].Data = make([]byte, room-room/n*(n-1)+more)
			holdCheck(t, m)
			if e := message.Check(m); (e == api.OK) != (more <= 0) {
				t.Error(n, more, e)
			}
		}
	}
}

// P12.1: the edges of each number of an entry, in every place of some.
func TestEntries(t *testing.T) {
	for _, n := range []int{1, 2, 5, most} {
		for _, at := range []int{0, n / 2, n - 1} {
			for _, v := range ends {
				m := plain(api.MAppend)
				m.Entries = make([]api.Entry, n)
				m.Entries[at].Term = v
				holdCheck(t, m)
				m.Entries[at].Term, m.Entries[at].Kind = 0, v
				holdCheck(t, m)
			}
		}
	}
}

// randomMsg is a message of which most fields are what its kind may have.
func randomMsg(r *rand.Rand) api.Msg {
	m := api.Msg{Kind: 1 + r.IntN(lastKind), From: 1 + r.IntN(199), To: 1 + r.IntN(199)}
	v := reflect.ValueOf(&m).Elem()
	for _, name := range fieldsOf(m.Kind) {
		switch name {
		case "Ok":
			m.Ok = r.IntN(2) == 0
		case "Entries":
			for range r.IntN(6) {
				m.Entries = append(m.Entries, api.Entry{Term: r.IntN(top + 1), Kind: r.IntN(3), Data: someBytes(r, 9)})
			}
		case "Data":
			m.Data = someBytes(r, 40)
		default:
			lim, ok := ranges[name]
			if !ok {
				lim = [2]int{0, top}
			}
			v.FieldByName(name).SetInt(int64(lim[0] + r.IntN(min(lim[1]-lim[0]+1, 1<<r.IntN(41)))))
		}
	}
	for range r.IntN(8) / 6 {
		x := v.Field(r.IntN(14))
		if x.Kind() == reflect.Int {
			x.SetInt(int64(ends[r.IntN(len(ends))]))
		}
	}
	return m
}

func someBytes(r *rand.Rand, k int) []byte {
	b := make([]byte, r.IntN(k))
	for i := range b {
		b[i] = byte(r.IntN(256))
	}
	return b
}

func TestRandomMessages(t *testing.T) {
	r := rand.New(rand.NewPCG(12, 1))
	for range 60000 {
		holdCheck(t, randomMsg(r))
	}
}

// P12.3: of each kind, payloads that end too early, or go on behind their end.
func TestGetTruncatedPayload(t *testing.T) {
	for kind := 1; kind <= lastKind; kind++ {
		p := wantBytes(plain(kind))
		for n := range p {
			if e := holdGet(t, p[:n]); e != api.ErrForm {
				t.Fatal("a payload cut at", n, "of the kind", kind, e)
			}
		}
		for n := 1; n < 40; n++ {
			if e := holdGet(t, append(bytes.Clone(p), make([]byte, n)...)); e != api.ErrForm {
				t.Fatal("a payload with", n, "bytes more, of the kind", kind, e)
			}
		}
	}
}

// P12.3: of each kind, payloads in which one number or two of them are another one.
func TestGetTurnedNumbers(t *testing.T) {
	for kind := -1; kind <= lastKind+2; kind++ {
		base := plain(min(max(kind, 1), lastKind))
		base.Entries = base.Entries[:min(1, len(base.Entries))]
		p := wantBytes(base)
		p = append(number(nil, kind), p[8:]...)
		holdGet(t, p)
		for i := 0; i+8 <= len(p); i += 8 {
			for _, v := range ends {
				q := append(number(bytes.Clone(p[:i]), v), p[i+8:]...)
				holdGet(t, q)
				for k := 0; k < i; k += 8 {
					for _, w := range []int{math.MinInt, -1, 0, 1, 2, 5, top + 1} {
						copy(q[k:], number(nil, w))
						holdGet(t, q)
					}
					copy(q[k:k+8], p[k:])
				}
			}
		}
	}
}

// P12.3: a number ahead of the entries, or of a byte string, that does not fit what follows.
func TestGetCounts(t *testing.T) {
	lead := func(kind int, l ...int) []byte {
		b := number(nil, kind)
		for _, v := range append([]int{1, 2}, l...) {
			b = number(b, v)
		}
		return b
	}
	entry := number(number(number(nil, 1), 2), 0)
	for n := range 5 {
		tail := bytes.Repeat(entry, n)
		for _, count := range append([]int{-2, 7, 8, 1 << 61, 1<<61 + 1, 1 << 59}, ends...) {
			want := api.ErrForm
			if count == n {
				want = api.OK
			}
			if e := holdGet(t, append(lead(api.MAppend, 0, 0, 0, 0, 0, 0, count), tail...)); e != want {
				t.Fatal(count, "entries said, of", n, e)
			}
		}
	}
	for _, count := range append([]int{-2, 7, 8, 16, 17}, ends...) {
		for n := range 18 {
			for _, p := range [][]byte{lead(api.MAsk, 0, 0, count), lead(api.MSnap, 0, 0, 0, 0, 0, count), lead(api.MTold, 0, 0, 0, 0, count), lead(api.MAppend, 0, 0, 0, 0, 0, 0, 1, 0, 0, count)} {
				want := api.ErrForm
				if count == n {
					want = api.OK
				}
				if e := holdGet(t, append(p, make([]byte, n)...)); e != want {
					t.Fatal(count, "bytes said, of", n, e)
				}
			}
		}
	}
}

// P12.3: more entries than there may be can stand in a frame; they can be read, and Check refuses them.
func TestGetManyEntries(t *testing.T) {
	for _, n := range []int{most - 1, most, most + 1, (longest - 80) / 24} {
		m := plain(api.MAppend)
		m.Entries = make([]api.Entry, n)
		want := api.OK
		if n > most {
			want = api.ErrLong
		}
		if e := holdGet(t, wantBytes(m)); e != want {
			t.Error(n, "entries:", e)
		}
		m.Entries[n-1].Kind = 3
		if e := holdGet(t, wantBytes(m)); e != api.ErrRange {
			t.Error(n, "entries, the last one of no kind:", e)
		}
		if e := holdGet(t, wantBytes(m)[:80+24*n-1]); e != api.ErrForm {
			t.Error(n, "entries, the last one cut:", e)
		}
		if e := holdGet(t, append(wantBytes(m), 0)); n < 2000 && e != api.ErrForm {
			t.Error(n, "entries and a byte more:", e)
		}
	}
}

// P12.3: payloads of numbers of any sort.
func TestGetRandomNumbers(t *testing.T) {
	r := rand.New(rand.NewPCG(12, 2))
	for range 60000 {
		p := number(nil, r.IntN(lastKind+3)-1)
		for range r.IntN(13) {
			v := r.IntN(4)
			if r.IntN(9) == 0 {
				v = ends[r.IntN(len(ends))]
			}
			p = number(p, v)
		}
		p = p[:len(p)-r.IntN(8)*(r.IntN(5)/4)]
		holdGet(t, append(p, someBytes(r, 1+r.IntN(3))...))
	}
	for range 3000 {
		holdGet(t, someBytes(r, 100))
	}
}

// P12.3: the errors of the frame stand ahead of all else, and ErrLong ahead of what is in the frame.
func TestGetFrames(t *testing.T) {
	good := framed(wantBytes(plain(api.MVote)))
	wrong := bytes.Clone(good)
	wrong[9] ^= 4
	over := append(bytes.Clone(good), 1, 2, 3)
	for _, x := range []struct {
		name string
		b    []byte
		e    api.Errno
	}{
		{"none", nil, api.ErrShort},
		{"an empty one", []byte{}, api.ErrShort},
		{"seven bytes", make([]byte, 7), api.ErrShort},
		{"a length above the greatest", []byte{0, 1, 0, 1, 0, 0, 0, 0}, api.ErrLong},
		{"too few bytes", good[:len(good)-1], api.ErrShort},
		{"another checksum", wrong, api.ErrSum},
		{"another checksum and more bytes", append(bytes.Clone(wrong), 1), api.ErrSum},
		{"more bytes", over, api.ErrLong},
		{"a second frame", append(bytes.Clone(good), good...), api.ErrLong},
		{"more bytes behind an empty payload", append(framed(nil), 1), api.ErrLong},
		{"more bytes behind a payload of no kind", append(framed(number(number(number(nil, 12), 1), 2)), 1), api.ErrLong},
		{"an empty payload", framed(nil), api.ErrForm},
		{"no To", framed(number(number(nil, 8), 1)), api.ErrForm},
		{"no kind and no To", framed(number(number(nil, 12), 1)), api.ErrForm},
		{"no kind", framed(number(number(number(nil, 12), 1), 2)), api.ErrKind},
		{"no kind and bytes behind it", framed(append(number(number(number(nil, 0), 1), 2), 9)), api.ErrKind},
		{"no kind and no address", framed(number(number(number(nil, -1), 0), 200)), api.ErrKind},
		{"no fields and no address", framed(number(number(number(nil, 8), 0), 200)), api.ErrForm},
		{"eight bytes of 0: an empty payload's length with another sum", make([]byte, 8), api.ErrSum},
	} {
		if m, e := message.Get(x.b); e != x.e || !reflect.ValueOf(m).IsZero() {
			t.Error(x.name, m, e)
		}
	}
}

// P12.4, P12.5: each bit inverted, each byte cut, bytes behind; also of long ones.
func TestSpoiltBytes(t *testing.T) {
	long := plain(api.MAsk)
	long.Data = make([]byte, 300)
	many := plain(api.MAppend)
	many.Entries = make([]api.Entry, 20)
	all := []api.Msg{long, many}
	for kind := 1; kind <= lastKind; kind++ {
		all = append(all, plain(kind))
		if m := (api.Msg{Kind: kind, From: 1, To: 1}); wantCheck(m) == api.OK {
			all = append(all, m)
		}
	}
	for _, m := range all {
		b, e := message.Put(m)
		if e != api.OK {
			t.Fatal("Put", m, e)
		}
		for k := range 8 * len(b) {
			c := bytes.Clone(b)
			c[k/8] ^= 1 << (k % 8)
			if x, e := message.Get(c); e == api.OK || !reflect.ValueOf(x).IsZero() {
				t.Fatal("the bit", k, "of", m, x, e)
			}
		}
		for n := range b {
			if x, e := message.Get(b[:n]); e != api.ErrShort || !reflect.ValueOf(x).IsZero() {
				t.Fatal("cut at", n, m, e)
			}
		}
		for n := 1; n < 70; n++ {
			if x, e := message.Get(append(bytes.Clone(b), make([]byte, n)...)); e != api.ErrLong || !reflect.ValueOf(x).IsZero() {
				t.Fatal(n, "bytes behind", m, e)
			}
		}
	}
}

// guarded is b with spare capacity, and what must stand there still.
func guarded(b []byte) []byte {
	return append(append(make([]byte, 0, len(b)+32), b...), bytes.Repeat([]byte{0xA5}, 32)...)[:len(b)]
}

func intact(b []byte) bool {
	return bytes.Equal(b[len(b):cap(b)], bytes.Repeat([]byte{0xA5}, cap(b)-len(b)))
}

// R3: the arguments, and what is behind their ends, stay as they are.
func TestArgumentsStay(t *testing.T) {
	for kind := 1; kind <= lastKind; kind++ {
		m := plain(kind)
		m.Data = guarded(m.Data)
		room := append(m.Entries, api.Entry{Term: 777})
		m.Entries = room[:len(room)-1]
		for i := range m.Entries {
			m.Entries[i].Data = guarded(m.Entries[i].Data)
		}
		was := clone(m)
		message.Check(m)
		b, _ := message.Put(m)
		if !same(m, was) || !intact(m.Data) || room[len(room)-1].Term != 777 {
			t.Error("the message of the kind", kind, "is another one")
		}
		for _, x := range m.Entries {
			if !intact(x.Data) {
				t.Error("behind an entry's bytes")
			}
		}
		b = guarded(b)
		c := bytes.Clone(b)
		message.Get(b)
		message.Get(b[:len(b)-1])
		if !bytes.Equal(b, c) || !intact(b) {
			t.Error("the bytes of the kind", kind, "are other ones")
		}
	}
}

// spoil writes into all of a message's memory, also behind the ends.
func spoil(m api.Msg) {
	fill := func(b []byte) {
		b = b[:cap(b)]
		for i := range b {
			b[i] = 0xEE
		}
	}
	fill(m.Data)
	for _, x := range m.Entries {
		fill(x.Data)
	}
	l := m.Entries[:cap(m.Entries)]
	for i := range l {
		l[i] = api.Entry{Term: -7}
	}
}

// R3, R4: answers are new memory, shared with nothing, and recur.
func TestAnswersAreNew(t *testing.T) {
	for kind := 1; kind <= lastKind; kind++ {
		m := plain(kind)
		for i := range m.Entries {
			m.Entries[i].Data = bytes.Repeat([]byte{byte(i)}, 5+i)
		}
		keep := clone(m)
		a, _ := message.Put(m)
		was := bytes.Clone(a)
		b, _ := message.Put(m)
		a = a[:cap(a)]
		for i := range a {
			a[i] = 0xEE
		}
		c, _ := message.Put(m)
		if !bytes.Equal(b, was) || !bytes.Equal(c, was) || !same(m, keep) {
			t.Error("Put of the kind", kind, "shares memory")
		}
		x, _ := message.Get(b)
		y, _ := message.Get(b)
		spoil(x)
		z, _ := message.Get(b)
		if !same(y, keep) || !same(z, keep) || !bytes.Equal(b, was) {
			t.Error("Get of the kind", kind, "shares memory")
		}
		for i := range b {
			b[i] = 0
		}
		if !same(y, keep) {
			t.Error("Get of the kind", kind, "keeps the bytes")
		}
	}
	whole, _ := message.Get(framed(wantBytes(plain(api.MAppend))))
	for i := range whole.Entries {
		was := clone(whole)
		d := whole.Entries[i].Data
		for k := range d[:cap(d)] {
			d[:cap(d)][k] = 0xEE
		}
		was.Entries[i].Data = bytes.Clone(d)
		if !same(whole, was) {
			t.Error("entries share memory")
		}
	}
}

// A nil list and an empty one are the same.
func TestNilAndEmpty(t *testing.T) {
	for kind := 1; kind <= lastKind; kind++ {
		m := plain(kind)
		m.Entries, m.Data = nil, nil
		a, e := message.Put(m)
		m.Entries, m.Data = []api.Entry{}, []byte{}
		b, f := message.Put(m)
		if e != api.OK || f != api.OK || !bytes.Equal(a, b) {
			t.Error(kind, a, b, e, f)
		}
	}
	m := plain(api.MAppend)
	m.Entries = []api.Entry{{Term: 1}}
	a, _ := message.Put(m)
	m.Entries = []api.Entry{{Term: 1, Data: []byte{}}}
	if b, _ := message.Put(m); !bytes.Equal(a, b) {
		t.Error("an entry's empty bytes")
	}
}

// R1: what is much too long is refused, and at once.
func TestMuchTooLong(t *testing.T) {
	huge := make([]byte, 1<<26)
	m := plain(api.MAppend)
	m.Entries = make([]api.Entry, 1<<16)
	for i := range m.Entries {
		m.Entries[i].Data = huge
	}
	for _, x := range []api.Msg{m, {Kind: api.MAsk, From: 1, To: 2, Data: huge}} {
		if e := message.Check(x); e != api.ErrLong {
			t.Error("Check", e)
		}
		if b, e := message.Put(x); e != api.ErrLong || b != nil {
			t.Error("Put", e)
		}
	}
	m.Entries = m.Entries[:most]
	if e := message.Check(m); e != api.ErrLong {
		t.Error("Check of as many entries as there may be", e)
	}
	if _, e := message.Get(huge); e != api.ErrSum {
		t.Error("Get", e)
	}
}
