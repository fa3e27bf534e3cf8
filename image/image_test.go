package image_test

import (
	"bytes"
	"encoding/binary"
	"math"
	"math/rand/v2"
	"reflect"
	"runtime"
	"slices"
	"testing"

	"glebe/api"
	"glebe/image"
)

// The document's numbers, held against api's by TestLimits.
const (
	top   = 1 << 40
	nodes = 7
)

// The chapter's functions, with these very signatures.
var (
	_ func(api.Image) []byte                             = image.Put
	_ func([]byte) (api.Image, api.Errno)                = image.Get
	_ func([]api.Change) []byte                          = image.PutChanges
	_ func([]byte) ([]api.Change, api.Errno)             = image.GetChanges
	_ func(api.Image, api.Change) (api.Image, api.Errno) = image.Apply
	_ func(api.Conf) []byte                              = image.PutConf
	_ func([]byte) (api.Conf, api.Errno)                 = image.GetConf
)

// ends are numbers at the ends of int and of what a number may be.
var ends = []int{math.MinInt, math.MinInt + 1, -top, -1 << 32, -2, -1, 0, 1, 2, 3, 7, 8, 9, 255, 256, 1 << 32, top - 1, top, top + 1, 1 << 60, 1<<61 + 1, math.MaxInt - 1, math.MaxInt}

// What follows encodes by the words of the section 'Definitions'.

func number(b []byte, l ...int) []byte {
	for _, v := range l {
		b = binary.BigEndian.AppendUint64(b, uint64(v))
	}
	return b
}

func blob(b, p []byte) []byte { return append(number(b, len(p)), p...) }

func ints(b []byte, l []int) []byte { return number(number(b, len(l)), l...) }

func logBytes(b []byte, l api.Log) []byte {
	b = number(b, l.Base, l.BaseTerm, len(l.Entries))
	for _, e := range l.Entries {
		b = blob(number(b, e.Term, e.Kind), e.Data)
	}
	return b
}

func confBytes(b []byte, c api.Conf) []byte { return ints(ints(ints(b, c.Old), c.New), c.Learners) }

func voteBytes(b []byte, v api.Accepted) []byte {
	return number(b, v.Txn, v.Part, v.Promised, v.Ballot, v.Value)
}

func hardBytes(b []byte, h api.Hard) []byte {
	return blob(confBytes(logBytes(number(b, h.Group, h.Term, h.Vote), h.Log), h.Conf), h.Snap)
}

func imageBytes(x api.Image) []byte {
	b := number(nil, len(x.Hards))
	for _, h := range x.Hards {
		b = hardBytes(b, h)
	}
	b = number(b, len(x.Votes))
	for _, v := range x.Votes {
		b = voteBytes(b, v)
	}
	return b
}

func changesBytes(l []api.Change) []byte {
	b := number(nil, len(l))
	for _, c := range l {
		b = number(b, c.Kind, c.Group, c.Term, c.Voted, c.From)
		b = voteBytes(blob(confBytes(logBytes(b, c.Log), c.Conf), c.Snap), c.Vote)
	}
	return b
}

// cursor reads by the chapter's words; ok becomes false when it can't.
type cursor struct {
	b  []byte
	ok bool
}

func (c *cursor) take(n int) []byte {
	if !c.ok || n < 0 || n > len(c.b) {
		c.ok = false
		return nil
	}
	p := c.b[:n]
	c.b = c.b[n:]
	return p
}

func (c *cursor) number() int {
	if p := c.take(8); c.ok {
		return int(binary.BigEndian.Uint64(p))
	}
	return 0
}

func (c *cursor) numbers(l ...*int) {
	for _, p := range l {
		*p = c.number()
	}
}

func (c *cursor) blob() []byte { return c.take(c.number()) }

// count is the number of a list's elements.
func (c *cursor) count() int {
	n := c.number()
	if n < 0 || float64(n) > float64(len(c.b))/8 {
		c.ok = false
	}
	if !c.ok {
		return 0
	}
	return n
}

func (c *cursor) ints() []int {
	var l []int
	for n := c.count(); n > 0 && c.ok; n-- {
		l = append(l, c.number())
	}
	return l
}

func (c *cursor) log() (l api.Log) {
	c.numbers(&l.Base, &l.BaseTerm)
	for n := c.count(); n > 0 && c.ok; n-- {
		e := api.Entry{}
		c.numbers(&e.Term, &e.Kind)
		e.Data = c.blob()
		l.Entries = append(l.Entries, e)
	}
	return l
}

func (c *cursor) conf() (x api.Conf) {
	x.Old = c.ints()
	x.New = c.ints()
	x.Learners = c.ints()
	return x
}

func (c *cursor) vote() (v api.Accepted) {
	c.numbers(&v.Txn, &v.Part, &v.Promised, &v.Ballot, &v.Value)
	return v
}

func (c *cursor) hard() (h api.Hard) {
	c.numbers(&h.Group, &h.Term, &h.Vote)
	h.Log = c.log()
	h.Conf = c.conf()
	h.Snap = c.blob()
	return h
}

func (c *cursor) change() (x api.Change) {
	c.numbers(&x.Kind, &x.Group, &x.Term, &x.Voted, &x.From)
	x.Log = c.log()
	x.Conf = c.conf()
	x.Snap = c.blob()
	x.Vote = c.vote()
	return x
}

func (c *cursor) end() api.Errno {
	switch {
	case !c.ok:
		return api.ErrForm
	case len(c.b) > 0:
		return api.ErrLong
	}
	return api.OK
}

// wantGet is P13.2 of an image.
func wantGet(b []byte) (api.Image, api.Errno) {
	c, x := &cursor{b, true}, api.Image{}
	for n := c.count(); n > 0 && c.ok; n-- {
		x.Hards = append(x.Hards, c.hard())
	}
	for n := c.count(); n > 0 && c.ok; n-- {
		x.Votes = append(x.Votes, c.vote())
	}
	e := c.end()
	if e == api.OK && !inOrder(x) {
		e = api.ErrOrder
	}
	if e != api.OK {
		return api.Image{}, e
	}
	return x, e
}

// inOrder holds each two elements against each other.
func inOrder(x api.Image) bool {
	for i, a := range x.Hards {
		for _, b := range x.Hards[:i] {
			if b.Group >= a.Group {
				return false
			}
		}
	}
	for i, a := range x.Votes {
		for _, b := range x.Votes[:i] {
			if b.Txn > a.Txn || b.Txn == a.Txn && b.Part >= a.Part {
				return false
			}
		}
	}
	return true
}

// wantChanges is P13.2 of changes.
func wantChanges(b []byte) ([]api.Change, api.Errno) {
	c := &cursor{b, true}
	var l []api.Change
	for n := c.count(); n > 0 && c.ok; n-- {
		l = append(l, c.change())
	}
	if e := c.end(); e != api.OK {
		return nil, e
	}
	return l, api.OK
}

// wantConf is P13.2 of members.
func wantConf(b []byte) (api.Conf, api.Errno) {
	c := &cursor{b, true}
	x := c.conf()
	e := c.end()
	if e == api.OK && !valid(x) {
		e = api.ErrConf
	}
	if e != api.OK {
		return api.Conf{}, e
	}
	return x, e
}

// valid is chapter 10's word of members.
func valid(c api.Conf) bool {
	for _, l := range [][]int{c.Old, c.New, c.Learners} {
		for i, node := range l {
			if node < 1 || node > nodes || i > 0 && l[i-1] >= node {
				return false
			}
		}
	}
	for _, node := range c.Learners {
		if slices.Contains(c.Old, node) || slices.Contains(c.New, node) {
			return false
		}
	}
	return len(c.Old) > 0
}

// wantApply is P13.3, for a sorted image.
func wantApply(x api.Image, c api.Change) (api.Image, api.Errno) {
	if c.Kind < 1 || c.Kind > 4 {
		return api.Image{}, api.ErrKind
	}
	if c.Kind == api.CAccept {
		return withVote(x, c.Vote), api.OK
	}
	y := api.Image{Hards: slices.Clone(x.Hards), Votes: x.Votes}
	for i := range y.Hards {
		if y.Hards[i].Group == c.Group {
			if e := change(&y.Hards[i], c); e != api.OK {
				return api.Image{}, e
			}
			return y, api.OK
		}
	}
	return api.Image{}, api.ErrNone
}

func withVote(x api.Image, v api.Accepted) api.Image {
	y := api.Image{Hards: x.Hards, Votes: []api.Accepted{v}}
	for _, w := range x.Votes {
		if w.Txn != v.Txn || w.Part != v.Part {
			y.Votes = append(y.Votes, w)
		}
	}
	slices.SortFunc(y.Votes, func(a, b api.Accepted) int {
		if a.Txn < b.Txn || a.Txn == b.Txn && a.Part < b.Part {
			return -1
		}
		return 1
	})
	return y
}

func change(h *api.Hard, c api.Change) api.Errno {
	term, entry := map[int]int{h.Log.Base: h.Log.BaseTerm}, map[int]api.Entry{}
	last := h.Log.Base
	for _, e := range h.Log.Entries {
		last++
		term[last], entry[last] = e.Term, e
	}
	switch c.Kind {
	case api.CTerm:
		h.Term, h.Vote = c.Term, c.Voted
	case api.CLog:
		if c.From < h.Log.Base+1 || c.From > last+1 {
			return api.ErrRange
		}
		var l []api.Entry
		for i := h.Log.Base + 1; i < c.From; i++ {
			l = append(l, entry[i])
		}
		h.Log.Entries = append(l, c.Log.Entries...)
	case api.CSnap:
		h.Log = api.Log{Base: c.Log.Base, BaseTerm: c.Log.BaseTerm}
		if t, ok := term[c.Log.Base]; ok && t == c.Log.BaseTerm {
			for i := c.Log.Base + 1; i <= last; i++ {
				h.Log.Entries = append(h.Log.Entries, entry[i])
			}
		}
		h.Conf, h.Snap = c.Conf, c.Snap
	}
	return api.OK
}

// Two values are the same if their encodings by the chapter's words are: a nil list and an empty one are one thing.

func same(a, b api.Image) bool { return bytes.Equal(imageBytes(a), imageBytes(b)) }

func sameHard(a, b api.Hard) bool { return bytes.Equal(hardBytes(nil, a), hardBytes(nil, b)) }

func isZero(v any) bool { return reflect.ValueOf(v).IsZero() }

// holdImage holds Get of bytes against the chapter's words, and Put of what it answers.
func holdImage(t *testing.T, b []byte) api.Errno {
	t.Helper()
	want, code := wantGet(b)
	x, e := image.Get(b)
	if e != code || !same(x, want) || e != api.OK && !isZero(x) {
		t.Fatalf("Get of %x: %v, %d, not %v, %d", b[:min(400, len(b))], x, e, want, code)
	}
	if e == api.OK && !bytes.Equal(image.Put(x), b) {
		t.Fatalf("Put of Get of %x: %x", b, image.Put(x))
	}
	return e
}

func holdChanges(t *testing.T, b []byte) api.Errno {
	t.Helper()
	want, code := wantChanges(b)
	l, e := image.GetChanges(b)
	if e != code || !bytes.Equal(changesBytes(l), changesBytes(want)) || e != api.OK && l != nil {
		t.Fatalf("GetChanges of %x: %v, %d, not %v, %d", b[:min(400, len(b))], l, e, want, code)
	}
	if e == api.OK && !bytes.Equal(image.PutChanges(l), b) {
		t.Fatalf("PutChanges of GetChanges of %x: %x", b, image.PutChanges(l))
	}
	return e
}

func holdConf(t *testing.T, b []byte) api.Errno {
	t.Helper()
	want, code := wantConf(b)
	c, e := image.GetConf(b)
	if e != code || !bytes.Equal(confBytes(nil, c), confBytes(nil, want)) || e != api.OK && !isZero(c) {
		t.Fatalf("GetConf of %x: %v, %d, not %v, %d", b[:min(400, len(b))], c, e, want, code)
	}
	if e == api.OK && !bytes.Equal(image.PutConf(c), b) {
		t.Fatalf("PutConf of GetConf of %x: %x", b, image.PutConf(c))
	}
	return e
}

// holds are the three decoders, each with the encoding of something that it decodes.
func holds() []struct {
	name string
	b    []byte
	hold func(*testing.T, []byte) api.Errno
} {
	return []struct {
		name string
		b    []byte
		hold func(*testing.T, []byte) api.Errno
	}{
		{"no image", imageBytes(api.Image{}), holdImage},
		{"an image", imageBytes(example()), holdImage},
		{"an image of plain Hards", imageBytes(api.Image{Hards: []api.Hard{{Group: -1}, {}, {Group: 1}}, Votes: []api.Accepted{{}, {Part: 1}, {Txn: 1}}}), holdImage},
		{"no changes", changesBytes(nil), holdChanges},
		{"changes", changesBytes(exampleChanges()), holdChanges},
		{"plain changes", changesBytes(make([]api.Change, 3)), holdChanges},
		{"one member", confBytes(nil, api.Conf{Old: []int{1}}), holdConf},
		{"members", confBytes(nil, api.Conf{Old: []int{1, 2, 3}, New: []int{2, 4}, Learners: []int{5, 6}}), holdConf},
	}
}

// holdApply holds Apply against the chapter's words, P13.5 too.
func holdApply(t *testing.T, x api.Image, c api.Change) (api.Image, api.Errno) {
	t.Helper()
	want, code := wantApply(x, c)
	y, e := image.Apply(x, c)
	if e != code || !same(y, want) || e != api.OK && !isZero(y) {
		t.Fatalf("Apply of %+v to %+v: %+v, %d, not %+v, %d", c, x, y, e, want, code)
	}
	if e != api.OK {
		return y, e
	}
	if z, e := image.Apply(y, c); e != api.OK || !same(z, y) {
		t.Fatalf("Apply of %+v to %+v, twice: %+v, %d, not %+v", c, x, z, e, y)
	}
	if !inOrder(y) {
		t.Fatalf("Apply of %+v to %+v: %+v isn't sorted", c, x, y)
	}
	return y, e
}

// entries is entries of these terms, each of which tells by its kind and its bytes where it is from.
func entries(mark byte, terms ...int) []api.Entry {
	var l []api.Entry
	for i, term := range terms {
		l = append(l, api.Entry{Term: term, Kind: int(mark)*100 + i, Data: bytes.Repeat([]byte{mark, byte(i)}, i%3)})
	}
	return l
}

// exampleLog is the log of the chapter's examples.
func exampleLog() api.Log { return api.Log{Base: 4, BaseTerm: 2, Entries: entries(1, 2, 3, 3)} }

func exampleHard(group int) api.Hard {
	return api.Hard{Group: group, Term: 11, Vote: 12, Log: exampleLog(), Conf: api.Conf{Old: []int{1, 2, 3}, New: []int{2, 3, 4}, Learners: []int{6}}, Snap: []byte{21, 22, 23}}
}

// example is an image all fields of which say something.
func example() api.Image {
	other := api.Hard{Group: 4, Term: 31, Vote: 32, Log: api.Log{Base: 33, BaseTerm: 34}, Conf: api.Conf{Old: []int{7}}}
	votes := []api.Accepted{{Txn: 5, Part: 1, Promised: 41, Ballot: 42, Value: 1}, {Txn: 5, Part: 3, Promised: 43, Ballot: 44, Value: 2}, {Txn: 9, Part: 2, Promised: 45, Ballot: 46}}
	return api.Image{Hards: []api.Hard{exampleHard(1), other}, Votes: votes}
}

func exampleChanges() []api.Change {
	all := api.Change{Kind: 51, Group: 52, Term: 53, Voted: 54, From: 55, Log: exampleLog(), Conf: api.Conf{Old: []int{1}, New: []int{2, 3}, Learners: []int{4, 5, 6}}, Snap: []byte{61, 62}, Vote: api.Accepted{Txn: 71, Part: 72, Promised: 73, Ballot: 74, Value: 75}}
	return []api.Change{{Kind: api.CTerm, Term: 8, Voted: 3}, all, {}, {Kind: api.CAccept, Vote: api.Accepted{Txn: 1, Part: 2}}}
}

func TestLimits(t *testing.T) {
	if api.MaxNodes != nodes || api.MaxNumber != top {
		t.Error("the limits are not the document's")
	}
	if api.CTerm != 1 || api.CLog != 2 || api.CSnap != 3 || api.CAccept != 4 {
		t.Error("the kinds are not the document's")
	}
	for _, x := range []struct {
		of     reflect.Type
		fields int
	}{{reflect.TypeFor[api.Image](), 2}, {reflect.TypeFor[api.Hard](), 6}, {reflect.TypeFor[api.Accepted](), 5}, {reflect.TypeFor[api.Change](), 9}, {reflect.TypeFor[api.Conf](), 3}, {reflect.TypeFor[api.Log](), 3}, {reflect.TypeFor[api.Entry](), 3}} {
		if x.of.NumField() != x.fields {
			t.Error(x.of, "has other fields")
		}
	}
}

func TestExamples(t *testing.T) {
	if b := image.Put(api.Image{}); !bytes.Equal(b, make([]byte, 16)) {
		t.Errorf("Put of no image: %x", b)
	}
	for _, x := range []struct {
		b []byte
		e api.Errno
	}{{make([]byte, 15), api.ErrForm}, {make([]byte, 17), api.ErrLong}, {number(make([]byte, 8), -1), api.ErrForm}, {make([]byte, 16), api.OK}} {
		if _, e := image.Get(x.b); e != x.e {
			t.Errorf("Get of %x: %d", x.b, e)
		}
	}
	if _, e := image.Apply(api.Image{}, api.Change{Kind: api.CTerm}); e != api.ErrNone {
		t.Error("CTerm without Hards:", e)
	}
	v := api.Accepted{Txn: 5, Part: 1, Promised: 2}
	if x, e := image.Apply(api.Image{}, api.Change{Kind: api.CAccept, Vote: v}); e != api.OK || !same(x, api.Image{Votes: []api.Accepted{v}}) {
		t.Error("CAccept without Hards:", x, e)
	}
	l := exampleLog()
	x := api.Image{Hards: []api.Hard{{Group: 1, Log: l}}}
	for _, y := range []struct {
		from int
		e    []api.Entry
		want []api.Entry
		code api.Errno
	}{
		{9, nil, nil, api.ErrRange},
		{8, entries(2, 9), []api.Entry{l.Entries[0], l.Entries[1], l.Entries[2], entries(2, 9)[0]}, api.OK},
		{5, nil, nil, api.OK},
	} {
		got, e := image.Apply(x, api.Change{Kind: api.CLog, Group: 1, From: y.from, Log: api.Log{Entries: y.e}})
		if e != y.code || e == api.OK && !same(got, api.Image{Hards: []api.Hard{{Group: 1, Log: api.Log{Base: 4, BaseTerm: 2, Entries: y.want}}}}) {
			t.Error("CLog", y.from, got, e)
		}
	}
	for _, y := range []struct {
		base, term int
		want       []api.Entry
	}{{6, 3, l.Entries[2:]}, {6, 2, nil}, {9, 3, nil}} {
		got, e := image.Apply(x, api.Change{Kind: api.CSnap, Group: 1, Log: api.Log{Base: y.base, BaseTerm: y.term}})
		if e != api.OK || !same(got, api.Image{Hards: []api.Hard{{Group: 1, Log: api.Log{Base: y.base, BaseTerm: y.term, Entries: y.want}}}}) {
			t.Error("CSnap", y.base, y.term, got, e)
		}
	}
}

// P13.1: encodings written out by hand, so that they hang on no code at all.
func TestBytes(t *testing.T) {
	// The bytes of l, each as a number, but those below 0, which are bytes as they are, taken from -100 on.
	spelt := func(l ...int) []byte {
		var b []byte
		for _, v := range l {
			if v < 0 {
				b = append(b, byte(v+100))
			} else {
				b = append(b, 0, 0, 0, 0, 0, 0, 0, byte(v))
			}
		}
		return b
	}
	x := api.Image{
		Hards: []api.Hard{
			{Group: 1, Term: 2, Vote: 3, Log: api.Log{Base: 4, BaseTerm: 5, Entries: []api.Entry{{Term: 6, Kind: 7, Data: []byte{8}}, {Term: 9, Kind: 10}}}, Conf: api.Conf{Old: []int{11, 12, 13}, New: []int{14}, Learners: []int{15, 16}}, Snap: []byte{17, 18, 19, 20}},
			{Group: 21},
		},
		Votes: []api.Accepted{{Txn: 22, Part: 23, Promised: 24, Ballot: 25, Value: 26}},
	}
	want := spelt(2,
		1, 2, 3, 4, 5, 2, 6, 7, 1, 8-100, 9, 10, 0, 3, 11, 12, 13, 1, 14, 2, 15, 16, 4, 17-100, 18-100, 19-100, 20-100,
		21, 0, 0, 0, 0, 0, 0, 0, 0, 0,
		1, 22, 23, 24, 25, 26)
	if b := image.Put(x); !bytes.Equal(b, want) {
		t.Errorf("Put: %x, not %x", b, want)
	}
	l := []api.Change{
		{Kind: 1, Group: 2, Term: 3, Voted: 4, From: 5, Log: api.Log{Base: 6, BaseTerm: 7, Entries: []api.Entry{{Term: 8, Kind: 9, Data: []byte{10, 11}}}}, Conf: api.Conf{Old: []int{12}, New: []int{13, 14}, Learners: []int{15}}, Snap: []byte{16}, Vote: api.Accepted{Txn: 17, Part: 18, Promised: 19, Ballot: 20, Value: 21}},
		{},
	}
	want = spelt(2,
		1, 2, 3, 4, 5, 6, 7, 1, 8, 9, 2, 10-100, 11-100, 1, 12, 2, 13, 14, 1, 15, 1, 16-100, 17, 18, 19, 20, 21,
		0, 0, 0, 0, 0, 0, 0, 0, 0, 0, 0, 0, 0, 0, 0, 0, 0)
	if b := image.PutChanges(l); !bytes.Equal(b, want) {
		t.Errorf("PutChanges: %x, not %x", b, want)
	}
	if b := image.PutChanges(nil); !bytes.Equal(b, make([]byte, 8)) {
		t.Errorf("PutChanges of none: %x", b)
	}
	want = spelt(2, 1, 2, 1, 3, 3, 4, 5, 6)
	if b := image.PutConf(api.Conf{Old: []int{1, 2}, New: []int{3}, Learners: []int{4, 5, 6}}); !bytes.Equal(b, want) {
		t.Errorf("PutConf: %x, not %x", b, want)
	}
	if b := image.PutConf(api.Conf{}); !bytes.Equal(b, make([]byte, 24)) {
		t.Errorf("PutConf of none: %x", b)
	}
}

// random is values of a type, each field of which may be anything; few is how long lists are.
func random(r *rand.Rand, v reflect.Value, few int) {
	switch v.Kind() {
	case reflect.Int:
		v.SetInt(int64(r.IntN(9)))
		if r.IntN(4) == 0 {
			v.SetInt(int64(ends[r.IntN(len(ends))]))
		}
	case reflect.Uint8:
		v.SetUint(uint64(r.IntN(256)))
	case reflect.Slice:
		n := r.IntN(few)
		v.Set(reflect.MakeSlice(v.Type(), n, n))
		for i := range n {
			random(r, v.Index(i), few)
		}
	case reflect.Struct:
		for i := range v.NumField() {
			random(r, v.Field(i), few)
		}
	}
}

func randomOf[T any](r *rand.Rand, few int) (x T) {
	random(r, reflect.ValueOf(&x).Elem(), few)
	return x
}

// sorted is an image of which what is not in order is left out.
func sorted(x api.Image) api.Image {
	slices.SortFunc(x.Hards, func(a, b api.Hard) int {
		if a.Group < b.Group {
			return -1
		} else if a.Group > b.Group {
			return 1
		}
		return 0
	})
	x.Hards = slices.CompactFunc(x.Hards, func(a, b api.Hard) bool { return a.Group == b.Group })
	votes := x.Votes
	x.Votes = nil
	for _, v := range votes {
		x = withVote(x, v)
	}
	return x
}

// P13.1, P13.2, P13.4: images, changes and members of any sort.
func TestRoundTrips(t *testing.T) {
	r := rand.New(rand.NewPCG(13, 1))
	for range 4000 {
		whole := randomOf[api.Image](r, 5)
		if b := image.Put(whole); !bytes.Equal(b, imageBytes(whole)) {
			t.Fatalf("Put of %v: %x, not %x", whole, b, imageBytes(whole))
		}
		holdImage(t, image.Put(whole))
		x := sorted(whole)
		if y, e := image.Get(image.Put(x)); e != api.OK || !same(x, y) {
			t.Fatalf("Get of Put of %v: %v, %d", x, y, e)
		}
		l := randomOf[[]api.Change](r, 5)
		if b := image.PutChanges(l); !bytes.Equal(b, changesBytes(l)) {
			t.Fatalf("PutChanges of %v: %x, not %x", l, b, changesBytes(l))
		}
		if e := holdChanges(t, changesBytes(l)); e != api.OK {
			t.Fatalf("GetChanges of PutChanges of %v: %d", l, e)
		}
		c := randomOf[api.Conf](r, 5)
		if b := image.PutConf(c); !bytes.Equal(b, confBytes(nil, c)) {
			t.Fatalf("PutConf of %v: %x, not %x", c, b, confBytes(nil, c))
		}
		holdConf(t, image.PutConf(c))
	}
}

// P13.2: the numbers of lists, byte strings and members up to the ends of int, in every field of what is encoded.
func TestEveryField(t *testing.T) {
	r := rand.New(rand.NewPCG(13, 2))
	var each func(v reflect.Value, then func())
	each = func(v reflect.Value, then func()) {
		switch v.Kind() {
		case reflect.Int:
			was := v.Int()
			for _, k := range ends {
				v.SetInt(int64(k))
				then()
			}
			v.SetInt(was)
		case reflect.Slice:
			for i := range v.Len() {
				each(v.Index(i), then)
			}
		case reflect.Struct:
			for i := range v.NumField() {
				each(v.Field(i), then)
			}
		}
	}
	x := sorted(randomOf[api.Image](r, 4))
	for len(x.Hards) < 2 || len(x.Votes) < 2 || len(x.Hards[0].Log.Entries) < 2 {
		x = sorted(randomOf[api.Image](r, 4))
	}
	for _, y := range []api.Image{x, example()} {
		each(reflect.ValueOf(&y).Elem(), func() {
			if b := image.Put(y); !bytes.Equal(b, imageBytes(y)) {
				t.Fatalf("Put of %v: %x", y, b)
			}
			holdImage(t, imageBytes(y))
		})
	}
	l := exampleChanges()
	each(reflect.ValueOf(&l).Elem(), func() {
		if b := image.PutChanges(l); !bytes.Equal(b, changesBytes(l)) {
			t.Fatalf("PutChanges of %v: %x", l, b)
		}
		holdChanges(t, changesBytes(l))
	})
	c := api.Conf{Old: []int{1, 2, 3}, New: []int{2, 4}, Learners: []int{5, 6}}
	each(reflect.ValueOf(&c).Elem(), func() {
		if b := image.PutConf(c); !bytes.Equal(b, confBytes(nil, c)) {
			t.Fatalf("PutConf of %v: %x", c, b)
		}
		holdConf(t, confBytes(nil, c))
	})
}

// P13.2, P13.4: what ends too early, and what goes on behind its end.
func TestCutAndLengthened(t *testing.T) {
	for _, x := range holds() {
		if e := x.hold(t, x.b); e != api.OK {
			t.Error(x.name, e)
		}
		for n := range x.b {
			if e := x.hold(t, x.b[:n]); e != api.ErrForm {
				t.Fatal(x.name, "cut at", n, e)
			}
		}
		for n := 1; n < 50; n++ {
			for _, fill := range []byte{0, 1, 255} {
				if e := x.hold(t, append(bytes.Clone(x.b), bytes.Repeat([]byte{fill}, n)...)); e != api.ErrLong {
					t.Fatal(x.name, "with", n, "bytes more", e)
				}
			}
		}
		if e := x.hold(t, nil); e != api.ErrForm {
			t.Error("none for", x.name, e)
		}
	}
}

// P13.2: each eight bytes of an encoding, wherever they begin, as any number: those that tell how long a list or a byte string is among them.
func TestTurnedNumbers(t *testing.T) {
	for _, x := range holds() {
		for i := 0; i+8 <= len(x.b); i++ {
			for _, v := range append([]int{4, 5, 6, 10, 11, 16, (len(x.b) - i) / 8, (len(x.b)-i)/8 - 1, (len(x.b)-i)/8 - 2}, ends...) {
				b := bytes.Clone(x.b)
				copy(b[i:], number(nil, v))
				x.hold(t, b)
			}
		}
	}
}

// P13.2: each number of a list's elements that is not the right one, with few bytes behind it and with many.
func TestCounts(t *testing.T) {
	of := func(v ...int) []byte { return number(nil, v...) }
	lists := []struct {
		name    string
		lead    []byte // ahead of the number
		element []byte
		behind  []byte
		hold    func(*testing.T, []byte) api.Errno
	}{
		{"Hards", nil, hardBytes(nil, exampleHard(0)), of(0), holdImage},
		{"plain Hards", nil, hardBytes(nil, api.Hard{}), of(0), holdImage},
		{"entries of a Hard", of(1, 1, 2, 3, 4, 5), of(6, 7, 0), of(0, 0, 0, 0, 0), holdImage},
		{"Old of a Hard", of(1, 1, 2, 3, 4, 5, 0), of(1), of(0, 0, 0, 0), holdImage},
		{"New of a Hard", of(1, 1, 2, 3, 4, 5, 0, 0), of(1), of(0, 0, 0), holdImage},
		{"Learners of a Hard", of(1, 1, 2, 3, 4, 5, 0, 0, 0), of(1), of(0, 0), holdImage},
		{"votes", of(0), of(1, 2, 3, 4, 5), nil, holdImage},
		{"changes", nil, changesBytes(exampleChanges())[8:], nil, holdChanges},
		{"plain changes", nil, changesBytes(make([]api.Change, 1))[8:], nil, holdChanges},
		{"entries of a change", of(1, 1, 2, 3, 4, 5, 6, 7), of(6, 7, 0), of(0, 0, 0, 0, 1, 2, 3, 4, 5), holdChanges},
		{"Old of a change", of(1, 1, 2, 3, 4, 5, 6, 7, 0), of(1), of(0, 0, 0, 1, 2, 3, 4, 5), holdChanges},
		{"Old", nil, of(1), of(0, 0), holdConf},
		{"New", of(1, 1), of(1), of(0), holdConf},
		{"Learners", of(1, 1, 0), of(2), nil, holdConf},
	}
	for _, x := range lists {
		for n := range 9 {
			tail := append(bytes.Repeat(x.element, n), x.behind...)
			for _, count := range append([]int{4, 5, 6, 10, len(tail) / 8, len(tail)/8 + 1, len(tail)/8 - 1, len(tail)}, ends...) {
				b := append(number(bytes.Clone(x.lead), count), tail...)
				e := x.hold(t, b)
				if (count < 0 || count > len(tail)/8) && e != api.ErrForm {
					t.Error(count, x.name, "of", n, "are said to be there:", e)
				}
				x.hold(t, b[:len(b)-1])
				x.hold(t, append(b, 0))
			}
		}
	}
}

// P13.2: bytes and numbers of any sort.
func TestAnyBytes(t *testing.T) {
	r := rand.New(rand.NewPCG(13, 3))
	for range 60000 {
		var b []byte
		for range r.IntN(40) {
			v := r.IntN(3)
			if r.IntN(12) == 0 {
				v = ends[r.IntN(len(ends))]
			}
			b = number(b, v)
		}
		for range r.IntN(9) / 8 * r.IntN(9) {
			b = append(b, byte(r.IntN(256)))
		}
		holdImage(t, b)
		holdChanges(t, b)
		holdConf(t, b)
	}
}

// P13.2: Groups, and votes by Txn and Part, that ascend strictly and that do not; the errors of the form come first.
func TestOrder(t *testing.T) {
	some := []int{math.MinInt, -1, 0, 1, 4, math.MaxInt}
	for _, a := range some {
		for _, b := range some {
			for _, c := range some {
				x := api.Image{Hards: []api.Hard{{Group: a, Term: 9}, {Group: b, Term: 5}, {Group: c, Vote: 1}}}
				want := api.ErrOrder
				if a < b && b < c {
					want = api.OK
				}
				if e := holdImage(t, image.Put(x)); e != want {
					t.Error("Groups", a, b, c, e)
				}
				for _, d := range some {
					x := api.Image{Votes: []api.Accepted{{Txn: a, Part: b, Promised: 9}, {Txn: c, Part: d, Promised: 3}}}
					want := api.ErrOrder
					if a < c || a == c && b < d {
						want = api.OK
					}
					if e := holdImage(t, image.Put(x)); e != want {
						t.Error("votes", a, b, c, d, e)
					}
				}
			}
		}
	}
	v := api.Accepted{Txn: 2, Part: 2}
	for i, x := range []api.Image{
		{Hards: []api.Hard{{Group: 2}, {Group: 1}}, Votes: []api.Accepted{v}},
		{Hards: []api.Hard{{Group: 1}}, Votes: []api.Accepted{v, v}},
		{Hards: []api.Hard{{Group: 1}, {Group: 2}}, Votes: []api.Accepted{v, {Txn: 1, Part: 3}}},
		{Hards: []api.Hard{{Group: 1}, {Group: 2}, {Group: 3}, {Group: 2}}},
		{Votes: []api.Accepted{{Txn: 1}, v, {Txn: 3}, {Txn: 3}}},
		{Votes: []api.Accepted{{Txn: 1, Part: 1, Ballot: 1}, {Txn: 1, Part: 1, Ballot: 2}}},
	} {
		b := image.Put(x)
		if e := holdImage(t, b); e != api.ErrOrder {
			t.Error(i, e)
		}
		if e := holdImage(t, append(bytes.Clone(b), 0)); e != api.ErrLong {
			t.Error(i, "and a byte more:", e)
		}
		if e := holdImage(t, b[:len(b)-1]); e != api.ErrForm {
			t.Error(i, "and a byte less:", e)
		}
	}
}

// P13.2: members of all sorts, which are valid or not; the errors of the form come first.
func TestMembers(t *testing.T) {
	lists := [][]int{nil, {0}, {1}, {7}, {8}, {-1}, {1, 2}, {2, 1}, {1, 1}, {2, 3}, {6, 7}, {7, 8}, {0, 1}, {1, 2, 3}, {1, 3, 2}, {2, 2, 3}, {4, 5, 6, 7}, {1, 2, 3, 4, 5, 6, 7}, {1, 2, 3, 4, 5, 6, 7, 8}, {math.MinInt}, {math.MaxInt}, {top}, {1, 1 << 32}}
	for _, old := range lists {
		for _, next := range lists {
			for _, learners := range lists {
				c := api.Conf{Old: old, New: next, Learners: learners}
				want := api.ErrConf
				if valid(c) {
					want = api.OK
				}
				b := image.PutConf(c)
				if e := holdConf(t, b); e != want {
					t.Fatal(c, e)
				}
				if e := holdConf(t, append(bytes.Clone(b), 0)); e != api.ErrLong {
					t.Fatal(c, "and a byte more:", e)
				}
				if e := holdConf(t, b[:len(b)-1]); e != api.ErrForm {
					t.Fatal(c, "and a byte less:", e)
				}
			}
		}
	}
}

// P13.2: members that an image or a change has may be any: only GetConf asks whether they are valid.
func TestMembersOfAnImage(t *testing.T) {
	c := api.Conf{Old: []int{9, 0, 9}, Learners: []int{9}}
	if e := holdImage(t, image.Put(api.Image{Hards: []api.Hard{{Conf: c}}})); e != api.OK {
		t.Error("a Hard:", e)
	}
	if e := holdChanges(t, image.PutChanges([]api.Change{{Kind: 99, Conf: c}})); e != api.OK {
		t.Error("a change:", e)
	}
}

// R6: what a list's number says is there costs no more than the bytes that are there.
func TestCountsCostNothing(t *testing.T) {
	zeros := make([]byte, 1<<22)
	lead := func(v ...int) []byte { return append(number(nil, v...), zeros...) }
	n := len(zeros) / 8
	for _, x := range []struct {
		name string
		get  func([]byte) api.Errno
		b    []byte
	}{
		{"Hards, the first one of which has no form", func(b []byte) api.Errno { _, e := image.Get(b); return e }, lead(n, 0, 0, 0, 0, 0, -1)},
		{"Hards", func(b []byte) api.Errno { _, e := image.Get(b); return e }, lead(n)},
		{"entries", func(b []byte) api.Errno { _, e := image.Get(b); return e }, lead(1, 0, 0, 0, 0, 0, n, 0, 0, -1)},
		{"votes", func(b []byte) api.Errno { _, e := image.Get(b); return e }, lead(0, n)},
		{"changes", func(b []byte) api.Errno { _, e := image.GetChanges(b); return e }, lead(n, 0, 0, 0, 0, 0, 0, 0, -1)},
		{"more Hards than can be", func(b []byte) api.Errno { _, e := image.Get(b); return e }, lead(1 << 61)},
	} {
		var ahead, behind runtime.MemStats
		runtime.ReadMemStats(&ahead)
		if e := x.get(x.b); e != api.ErrForm {
			t.Error(x.name, e)
		}
		runtime.ReadMemStats(&behind)
		if took := behind.TotalAlloc - ahead.TotalAlloc; took > 20*uint64(len(x.b)) {
			t.Error(x.name, "took", took, "bytes of memory")
		}
	}
}

// junk is a change of a kind, all other fields of which say something.
func junk(kind int) api.Change {
	c := exampleChanges()[1]
	c.Kind, c.Group = kind, 1
	return c
}

// P13.3: CTerm changes the Term and the Vote, and nothing else.
func TestTerm(t *testing.T) {
	x := example()
	for _, term := range ends {
		for _, vote := range ends {
			for _, c := range []api.Change{{Kind: api.CTerm, Group: 1}, junk(api.CTerm), {Kind: api.CTerm, Group: 4}} {
				c.Term, c.Voted = term, vote
				y, _ := holdApply(t, x, c)
				at := c.Group / 4
				want := x.Hards[at]
				want.Term, want.Vote = term, vote
				if !sameHard(y.Hards[at], want) || !sameHard(y.Hards[1-at], x.Hards[1-at]) {
					t.Fatal(c, y)
				}
			}
		}
	}
}

// lists is all lists of up to k numbers out of some.
func lists(k int, out ...int) [][]int {
	all := [][]int{nil}
	for from := 0; k > 0; k-- {
		to := len(all)
		for _, l := range all[from:to] {
			for _, v := range out {
				all = append(all, append(slices.Clone(l), v))
			}
		}
		from = to
	}
	return all
}

// logs is logs at several bases with all lists of up to k terms out of some.
func logs(k int, out ...int) []api.Log {
	var all []api.Log
	for _, base := range []int{0, 1, 4, top} {
		for _, baseTerm := range []int{0, 2, top} {
			for _, terms := range lists(k, out...) {
				all = append(all, api.Log{Base: base, BaseTerm: baseTerm, Entries: entries(1, terms...)})
			}
		}
	}
	return all
}

// near is the numbers about the indexes of a log, and the ends.
func near(l api.Log) []int {
	all := slices.Clone(ends)
	for i := -3; i <= len(l.Entries)+3; i++ {
		all = append(all, l.Base+i)
	}
	return all
}

// P13.3: CLog from every index on, with entries of the same terms and of other ones.
func TestLog(t *testing.T) {
	for _, l := range logs(3, 1, 3) {
		x := example()
		x.Hards[0].Log = l
		for _, from := range near(l) {
			for _, terms := range lists(2, 1, 3) {
				c := junk(api.CLog)
				c.From, c.Log.Entries = from, entries(2, terms...)
				y, e := holdApply(t, x, c)
				if (e == api.OK) != (from > l.Base && from <= l.Base+len(l.Entries)+1) {
					t.Fatal(l, from, e)
				}
				if e != api.OK {
					continue
				}
				want := x.Hards[0]
				want.Log.Entries = append(slices.Clone(l.Entries[:from-l.Base-1]), entries(2, terms...)...)
				if !sameHard(y.Hards[0], want) || !sameHard(y.Hards[1], x.Hards[1]) {
					t.Fatal(l, c, y)
				}
			}
		}
	}
}

// P13.3: what stands from the index From on goes, also what is there with the same term, and what is behind the new entries.
func TestLogReplaces(t *testing.T) {
	l := exampleLog()
	x := api.Image{Hards: []api.Hard{{Log: l}}}
	for _, y := range []struct {
		from int
		e    []api.Entry
		want []api.Entry
	}{
		{5, nil, nil},
		{6, nil, l.Entries[:1]},
		{8, nil, l.Entries},
		{5, entries(2, 2), entries(2, 2)},
		{6, entries(2, 3), []api.Entry{l.Entries[0], entries(2, 3)[0]}},
		{7, entries(2, 3, 3), []api.Entry{l.Entries[0], l.Entries[1], entries(2, 3, 3)[0], entries(2, 3, 3)[1]}},
		{5, l.Entries[1:], l.Entries[1:]},
		{8, []api.Entry{{}}, append(slices.Clone(l.Entries), api.Entry{})},
	} {
		z, e := holdApply(t, x, api.Change{Kind: api.CLog, From: y.from, Log: api.Log{Base: 77, BaseTerm: 78, Entries: y.e}})
		if want := (api.Image{Hards: []api.Hard{{Log: api.Log{Base: 4, BaseTerm: 2, Entries: y.want}}}}); e != api.OK || !same(z, want) {
			t.Error(y.from, z, e)
		}
	}
}

// P13.3: CSnap of every base, with the term that is there and with other ones.
func TestSnap(t *testing.T) {
	for _, l := range logs(3, 0, 1, 3) {
		x := example()
		x.Hards[0].Log = l
		for _, base := range near(l) {
			for _, term := range []int{-1, 0, 1, 2, 3, top} {
				c := junk(api.CSnap)
				c.Log.Base, c.Log.BaseTerm = base, term
				y, e := holdApply(t, x, c)
				h := y.Hards[0]
				if e != api.OK || h.Log.Base != base || h.Log.BaseTerm != term || h.Term != 11 || h.Vote != 12 || !sameHard(y.Hards[1], x.Hards[1]) {
					t.Fatal(l, c, y, e)
				}
				if !bytes.Equal(h.Snap, c.Snap) || !bytes.Equal(confBytes(nil, h.Conf), confBytes(nil, c.Conf)) {
					t.Fatal(l, c, y)
				}
			}
		}
	}
}

// P13.3: which entries remain behind a CSnap.
func TestSnapKeepsTheRest(t *testing.T) {
	l := exampleLog()
	x := api.Image{Hards: []api.Hard{{Log: l}}}
	for _, y := range []struct{ base, term, left int }{
		{4, 2, 3}, {5, 2, 2}, {6, 3, 1}, {7, 3, 0}, // the base itself is an index of the log
		{4, 3, 0}, {5, 3, 0}, {6, 2, 0}, {7, 2, 0}, {3, 2, 0}, {3, 0, 0}, {8, 3, 0}, {8, 0, 0}, {0, 0, 0}, {-1, 2, 0}, {top, 3, 0}, {math.MaxInt, 3, 0}, {math.MinInt, 0, 0},
	} {
		z, e := holdApply(t, x, api.Change{Kind: api.CSnap, Log: api.Log{Base: y.base, BaseTerm: y.term, Entries: entries(3, 3, 3)}})
		if want := (api.Image{Hards: []api.Hard{{Log: api.Log{Base: y.base, BaseTerm: y.term, Entries: l.Entries[3-y.left:]}}}}); e != api.OK || !same(z, want) {
			t.Error(y, z, e)
		}
	}
}

// P13.3: a vote replaces the one of its Txn and Part, or comes to its place among all others.
func TestAccept(t *testing.T) {
	r := rand.New(rand.NewPCG(13, 4))
	some := []int{math.MinInt, -1, 0, 1, 2, 3, top, math.MaxInt}
	for range 300 {
		x := example()
		x.Votes = nil
		for range r.IntN(12) {
			x = withVote(x, api.Accepted{Txn: some[r.IntN(len(some))], Part: some[r.IntN(len(some))], Promised: r.IntN(99), Ballot: r.IntN(99), Value: r.IntN(3)})
		}
		for _, txn := range some {
			for _, part := range some {
				for _, c := range []api.Change{{Kind: api.CAccept, Group: 99}, junk(api.CAccept)} {
					c.Vote = api.Accepted{Txn: txn, Part: part, Promised: 7, Ballot: 8, Value: 9}
					y, e := holdApply(t, x, c)
					at := slices.Index(y.Votes, c.Vote)
					if e != api.OK || at < 0 || len(y.Votes) > len(x.Votes)+1 {
						t.Fatal(x.Votes, c.Vote, y.Votes, e)
					}
					there := slices.ContainsFunc(x.Votes, func(v api.Accepted) bool { return v.Txn == txn && v.Part == part })
					if there != (len(y.Votes) == len(x.Votes)) {
						t.Fatal(x.Votes, c.Vote, y.Votes)
					}
				}
			}
		}
	}
}

// P13.3: a Group that no Hard has, about those that are there and between them; ErrNone comes ahead of ErrRange.
func TestNoSuchGroup(t *testing.T) {
	all := [][]int{nil, {0}, {1}, {0, 4}, {1, 2, 3}, {0, 1, 2, 3, 4}, {-5, 2, top}, {math.MinInt, 0, math.MaxInt}}
	for _, groups := range all {
		x := api.Image{Votes: example().Votes}
		for i, g := range groups {
			h := exampleHard(g)
			h.Term, h.Log.BaseTerm = 100+i, i
			x.Hards = append(x.Hards, h)
		}
		for _, g := range append([]int{4, 5, 6}, ends...) {
			for kind := 1; kind <= 3; kind++ {
				c := junk(kind)
				c.Group, c.From = g, 5
				want := api.ErrNone
				if slices.Contains(groups, g) {
					want = api.OK
				}
				if _, e := holdApply(t, x, c); e != want {
					t.Fatal(groups, g, kind, e)
				}
				c.From = 99
				if want == api.OK && kind == api.CLog {
					want = api.ErrRange
				}
				if _, e := holdApply(t, x, c); e != want {
					t.Fatal(groups, g, kind, "from 99:", e)
				}
			}
		}
	}
}

// P13.3: a kind that is none comes ahead of all else.
func TestNoSuchKind(t *testing.T) {
	for _, kind := range append([]int{5, 6, 10, 1<<32 + 1, 1<<8 + 1}, ends...) {
		if kind >= 1 && kind <= 4 {
			continue
		}
		for _, x := range []api.Image{{}, example()} {
			for _, g := range []int{0, 1, 4, 9} {
				c := junk(kind)
				c.Group = g
				if _, e := holdApply(t, x, c); e != api.ErrKind {
					t.Error(kind, g, e)
				}
			}
		}
	}
}

// randomChange is a change that most often says something to the image.
func randomChange(r *rand.Rand, x api.Image) api.Change {
	c := randomOf[api.Change](r, 4)
	c.Kind = 1 + r.IntN(4)
	if r.IntN(20) == 0 {
		c.Kind = ends[r.IntN(len(ends))]
	}
	if len(x.Hards) > 0 && r.IntN(8) > 0 {
		h := x.Hards[r.IntN(len(x.Hards))]
		c.Group = h.Group
		c.From = h.Log.Base + r.IntN(len(h.Log.Entries)+3)
		c.Log.Base = h.Log.Base - 1 + r.IntN(len(h.Log.Entries)+3)
		c.Log.BaseTerm = r.IntN(3)
		if k := c.Log.Base - h.Log.Base - 1; k >= 0 && k < len(h.Log.Entries) && r.IntN(2) == 0 {
			c.Log.BaseTerm = h.Log.Entries[k].Term
		}
		c.Log.Base = max(c.Log.Base, 0)
	}
	for i := range c.Log.Entries {
		c.Log.Entries[i].Term = r.IntN(3)
	}
	return c
}

// randomImage is a sorted image with valid logs.
func randomImage(r *rand.Rand) api.Image {
	x := randomOf[api.Image](r, 5)
	for i := range x.Hards {
		x.Hards[i].Log.Base, x.Hards[i].Log.BaseTerm = r.IntN(6), r.IntN(3)
		for k := range x.Hards[i].Log.Entries {
			x.Hards[i].Log.Entries[k].Term = r.IntN(3)
		}
	}
	return sorted(x)
}

// P13.5: many changes, one behind the other, each of them also as bytes.
func TestChangesOverTime(t *testing.T) {
	r := rand.New(rand.NewPCG(13, 5))
	for range 150 {
		x := randomImage(r)
		for range 60 {
			c := randomChange(r, x)
			y, e := holdApply(t, x, c)
			if e != api.OK {
				continue
			}
			unchanged(t, x, y, c)
			if e := holdImage(t, image.Put(y)); e != api.OK {
				t.Fatal("Get of Put of an image that Apply answered:", e)
			}
			l, _ := image.GetChanges(image.PutChanges([]api.Change{c}))
			if z, e := image.Apply(x, l[0]); e != api.OK || !same(z, y) {
				t.Fatalf("Apply of %+v, encoded and decoded: %+v, %d", c, z, e)
			}
			x = y
		}
	}
}

// unchanged holds that all groups and votes but the change's are as they were.
func unchanged(t *testing.T, x, y api.Image, c api.Change) {
	t.Helper()
	for _, h := range x.Hards {
		if c.Kind != api.CAccept && h.Group == c.Group {
			continue
		}
		if !slices.ContainsFunc(y.Hards, func(k api.Hard) bool { return sameHard(h, k) }) {
			t.Fatalf("Apply of %+v: %+v has changed: %+v", c, h, y)
		}
	}
	for _, v := range x.Votes {
		if c.Kind == api.CAccept && v.Txn == c.Vote.Txn && v.Part == c.Vote.Part {
			continue
		}
		if !slices.Contains(y.Votes, v) {
			t.Fatalf("Apply of %+v: %+v has changed: %+v", c, v, y)
		}
	}
	if len(y.Hards) != len(x.Hards) || c.Kind != api.CAccept && len(y.Votes) != len(x.Votes) {
		t.Fatalf("Apply of %+v: %+v has others than %+v", c, y, x)
	}
}

// R1: no call panics, whatever image it is handed: not sorted, with logs that are not valid; nothing is promised of what it answers.
func TestNothingPanics(t *testing.T) {
	r := rand.New(rand.NewPCG(13, 6))
	for range 20000 {
		x, c := randomOf[api.Image](r, 5), randomOf[api.Change](r, 4)
		c.Kind = r.IntN(6)
		for _, h := range x.Hards {
			c.Group = h.Group
			for _, from := range append([]int{h.Log.Base, h.Log.Base + 1, h.Log.Base + len(h.Log.Entries) + 1, h.Log.Base + len(h.Log.Entries) + 2}, ends...) {
				c.From, c.Log.Base = from, from
				image.Apply(x, c)
			}
		}
		y, e := image.Apply(x, c)
		if e != api.OK && !isZero(y) {
			t.Fatal("beside", e, y)
		}
	}
	for _, base := range ends {
		for n := range 4 {
			x := api.Image{Hards: []api.Hard{{Log: api.Log{Base: base, Entries: entries(1, 0, 0, 0)[:n]}}}}
			for _, v := range near(x.Hards[0].Log) {
				for kind := 1; kind <= 3; kind++ {
					image.Apply(x, api.Change{Kind: kind, From: v, Log: api.Log{Base: v}})
				}
			}
		}
	}
}

// R1: long lists of all sorts, in time.
func TestLongLists(t *testing.T) {
	const n = 1 << 17
	h := api.Hard{Group: 1, Log: api.Log{Entries: make([]api.Entry, n)}, Snap: make([]byte, n)}
	for i := range h.Log.Entries {
		h.Log.Entries[i] = api.Entry{Term: i / 9, Kind: i % 3, Data: []byte{byte(i)}}
	}
	h.Conf.Old = make([]int, n)
	x := api.Image{Hards: []api.Hard{h}, Votes: make([]api.Accepted, n)}
	for i := range x.Votes {
		x.Votes[i] = api.Accepted{Txn: i / 4, Part: i % 4}
	}
	b := image.Put(x)
	if !bytes.Equal(b, imageBytes(x)) {
		t.Fatal("Put of a long image")
	}
	if y, e := image.Get(b); e != api.OK || !same(x, y) {
		t.Fatal("Get of a long image", e)
	}
	l := []api.Change{{Kind: api.CLog, Group: 1, From: n, Log: h.Log}, {Kind: api.CSnap, Group: 1, Log: api.Log{Base: n, BaseTerm: (n - 1) / 9}, Snap: h.Snap}, {Kind: api.CAccept, Vote: api.Accepted{Txn: n, Part: 1}}}
	if m, e := image.GetChanges(image.PutChanges(l)); e != api.OK || !bytes.Equal(changesBytes(m), changesBytes(l)) {
		t.Fatal("long changes", e)
	}
	for _, c := range l {
		y, e := image.Apply(x, c)
		want, _ := wantApply(x, c)
		if e != api.OK || !same(y, want) {
			t.Fatal("Apply to a long image", c.Kind, e)
		}
	}
	if _, e := image.GetConf(image.PutConf(h.Conf)); e != api.ErrConf {
		t.Error("long members", e)
	}
}

// A nil list and an empty one are the same, wherever one stands.
func TestNilAndEmpty(t *testing.T) {
	none := api.Image{Hards: []api.Hard{{Group: 1, Log: api.Log{Entries: []api.Entry{{Term: 1}}}}}}
	empty := api.Image{Hards: []api.Hard{{Group: 1, Log: api.Log{Entries: []api.Entry{{Term: 1, Data: []byte{}}}}, Conf: api.Conf{Old: []int{}, New: []int{}, Learners: []int{}}, Snap: []byte{}}}, Votes: []api.Accepted{}}
	if !bytes.Equal(image.Put(none), image.Put(empty)) || !bytes.Equal(image.Put(api.Image{}), image.Put(api.Image{Hards: []api.Hard{}, Votes: []api.Accepted{}})) {
		t.Error("Put")
	}
	if !bytes.Equal(image.PutConf(api.Conf{}), image.PutConf(empty.Hards[0].Conf)) {
		t.Error("PutConf")
	}
	if !bytes.Equal(image.PutChanges(nil), image.PutChanges([]api.Change{})) {
		t.Error("PutChanges")
	}
	for kind := 1; kind <= 4; kind++ {
		c := api.Change{Kind: kind, Group: 1, From: 2}
		d := api.Change{Kind: kind, Group: 1, From: 2, Log: api.Log{Entries: []api.Entry{}}, Conf: empty.Hards[0].Conf, Snap: []byte{}}
		a, e := holdApply(t, none, c)
		b, f := holdApply(t, empty, d)
		if e != f || !same(a, b) {
			t.Error(kind, a, b)
		}
	}
	if x, e := image.Apply(api.Image{Hards: []api.Hard{}}, api.Change{Kind: api.CTerm}); e != api.ErrNone || !isZero(x) {
		t.Error("no Hards", x, e)
	}
}

// fill makes a value say what no test says.
func fill(v reflect.Value) {
	switch v.Kind() {
	case reflect.Int:
		v.SetInt(7777)
	case reflect.Uint8:
		v.SetUint(0xA5)
	case reflect.Slice:
		v.Set(reflect.MakeSlice(v.Type(), 1, 1))
		fill(v.Index(0))
	case reflect.Struct:
		for i := range v.NumField() {
			fill(v.Field(i))
		}
	}
}

// roomy is a copy of a value, all lists of which have filled memory behind their ends.
func roomy[T any](x T) T {
	var copied func(v reflect.Value)
	copied = func(v reflect.Value) {
		switch v.Kind() {
		case reflect.Slice:
			n := v.Len()
			l := reflect.MakeSlice(v.Type(), n+3, n+3)
			for i := range n + 3 {
				if i < n {
					l.Index(i).Set(v.Index(i))
					copied(l.Index(i))
				} else {
					fill(l.Index(i))
				}
			}
			v.Set(l.Slice(0, n))
		case reflect.Struct:
			for i := range v.NumField() {
				copied(v.Field(i))
			}
		}
	}
	copied(reflect.ValueOf(&x).Elem())
	return x
}

// intact reports whether what roomy has filled is so still.
func intact(v reflect.Value) bool {
	switch v.Kind() {
	case reflect.Slice:
		whole := v.Slice(0, v.Cap())
		for i := range whole.Len() {
			if i < v.Len() {
				if !intact(v.Index(i)) {
					return false
				}
				continue
			}
			want := reflect.New(v.Type().Elem()).Elem()
			fill(want)
			if !reflect.DeepEqual(whole.Index(i).Interface(), want.Interface()) {
				return false
			}
		}
	case reflect.Struct:
		for i := range v.NumField() {
			if !intact(v.Field(i)) {
				return false
			}
		}
	}
	return true
}

// span is memory from an address on, ahead of another.
type span struct{ from, to uintptr }

// memory is where the lists of a value lie, with the room behind their ends.
func memory(v reflect.Value) []span {
	var l []span
	switch v.Kind() {
	case reflect.Slice:
		if n := uintptr(v.Cap()) * v.Type().Elem().Size(); n > 0 {
			l = append(l, span{v.Pointer(), v.Pointer() + n})
		}
		for i := range v.Len() {
			l = append(l, memory(v.Index(i))...)
		}
	case reflect.Struct:
		for i := range v.NumField() {
			l = append(l, memory(v.Field(i))...)
		}
	}
	return l
}

// apart reports whether no two of some values, and no two lists of one of them, share memory.
func apart(l ...any) bool {
	var all []span
	for _, x := range l {
		all = append(all, memory(reflect.ValueOf(x))...)
	}
	slices.SortFunc(all, func(a, b span) int {
		if a.from < b.from {
			return -1
		}
		return 1
	})
	for i := 1; i < len(all); i++ {
		if all[i].from < all[i-1].to {
			return false
		}
	}
	return true
}

// R3: no call changes its arguments or the memory behind them, and what each answers is new memory.
func TestMemory(t *testing.T) {
	r := rand.New(rand.NewPCG(13, 7))
	for range 4000 {
		was := randomImage(r)
		change := randomChange(r, was)
		x, c, l := roomy(was), roomy(change), roomy([]api.Change{change, randomChange(r, was)})
		keepX, keepC, keepL := imageBytes(x), changesBytes([]api.Change{c}), changesBytes(l)
		y, _ := image.Apply(x, c)
		z, _ := image.Apply(x, c)
		b1, b2, b3 := image.Put(x), image.PutChanges(l), image.PutConf(c.Conf)
		if !bytes.Equal(imageBytes(x), keepX) || !bytes.Equal(changesBytes([]api.Change{c}), keepC) || !bytes.Equal(changesBytes(l), keepL) {
			t.Fatal("an argument is another one")
		}
		if !intact(reflect.ValueOf(x)) || !intact(reflect.ValueOf(c)) || !intact(reflect.ValueOf(l)) {
			t.Fatal("behind an argument's end")
		}
		if !apart(x, c, l, y, z, b1, b2, b3) {
			t.Fatalf("Apply of %+v to %+v, or an encoding, shares memory", c, x)
		}
		b1, b2, b3 = roomy(b1), roomy(b2), roomy(b3)
		k1, k2, k3 := bytes.Clone(b1), bytes.Clone(b2), bytes.Clone(b3)
		x1, _ := image.Get(b1)
		x2, _ := image.Get(b1)
		l1, _ := image.GetChanges(b2)
		l2, _ := image.GetChanges(b2)
		c1, _ := image.GetConf(b3)
		c2, _ := image.GetConf(b3)
		if !bytes.Equal(b1, k1) || !bytes.Equal(b2, k2) || !bytes.Equal(b3, k3) || !intact(reflect.ValueOf(b1)) || !intact(reflect.ValueOf(b2)) || !intact(reflect.ValueOf(b3)) {
			t.Fatal("the bytes are other ones")
		}
		if !apart(b1, b2, b3, x1, x2, l1, l2, c1, c2) {
			t.Fatal("what was decoded shares memory")
		}
	}
	c := api.Conf{Old: []int{1, 2}, New: []int{2, 3}, Learners: []int{5}}
	b := image.PutConf(c)
	c1, _ := image.GetConf(b)
	c2, _ := image.GetConf(b)
	if !apart(b, c, c1, c2) {
		t.Error("members share memory")
	}
}

// R3: lists of one answer share nothing, even if those handed in do.
func TestSharedArguments(t *testing.T) {
	all := []byte("abcdefghijkl")
	nums := []int{1, 2, 3, 4, 5, 6}
	e := []api.Entry{{Data: all[:5]}, {Data: all[2:7]}, {Data: all[2:7]}, {Data: all[:0]}}
	conf := api.Conf{Old: nums[:3], New: nums[1:4], Learners: nums[4:]}
	x := api.Image{Votes: make([]api.Accepted, 1, 9)}
	for g := range 3 {
		x.Hards = append(x.Hards, api.Hard{Group: g, Log: api.Log{Entries: e}, Conf: conf, Snap: all})
	}
	for kind := 1; kind <= 4; kind++ {
		for _, from := range []int{1, 3, 5} {
			c := api.Change{Kind: kind, Group: 1, From: from, Log: api.Log{Entries: e}, Conf: conf, Snap: all, Vote: api.Accepted{Txn: from % 2}}
			y, _ := holdApply(t, x, c)
			if !apart(y) || !apart(append([]any{all, nums, e[:0], x.Hards[:0], x.Votes}, y)...) {
				t.Error("kind", kind, "from", from)
			}
		}
	}
	if string(all) != "abcdefghijkl" || !slices.Equal(nums, []int{1, 2, 3, 4, 5, 6}) {
		t.Error("what was handed in is another one")
	}
}

// R4: the same calls have the same results, whatever came between.
func TestAnswersRecur(t *testing.T) {
	r := rand.New(rand.NewPCG(13, 8))
	for range 500 {
		x := randomImage(r)
		c := randomChange(r, x)
		y, e := image.Apply(x, c)
		b := image.Put(x)
		for range 3 {
			other := randomImage(r)
			image.Apply(other, randomChange(r, other))
			image.Get(image.Put(randomOf[api.Image](r, 3))[:8])
			z, f := image.Apply(x, c)
			if e != f || !same(y, z) || !bytes.Equal(image.Put(x), b) {
				t.Fatal("another answer the second time")
			}
			if w, f := image.Get(b); f != api.OK || !same(w, x) {
				t.Fatal("another image the second time")
			}
		}
	}
}
