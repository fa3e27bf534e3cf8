package image

import (
	"glebe/api"
	"glebe/pack"
)

// wide is the number of bytes of a number, and so the least that an element of a list has.
const wide = 8

// reader reads what an image consists of; once it is bad, all that it reads is empty.
type reader struct{ *pack.Reader }

// whole is what all bytes of b are the encoding of, as one reads it.
func whole[T any](b []byte, one func(*reader) T) (T, api.Errno) {
	r := &reader{pack.Read(b)}
	x := one(r)
	if e := r.End(); e != api.OK {
		var none T
		return none, e
	}
	return x, api.OK
}

// list reads a list, each element of it by one; a number of elements that can't be there spoils the reader.
func list[T any](r *reader, one func() T) []T {
	n := r.Int()
	if n < 0 || n > r.Left()/wide {
		r.spoil()
	}
	var l []T
	for ; n > 0 && !r.Bad(); n-- {
		l = append(l, one())
	}
	return l
}

// spoil makes the reader bad, by asking a number of a reader of no bytes.
func (r *reader) spoil() {
	r.Reader = pack.Read(nil)
	r.Int()
}

func (r *reader) image() api.Image {
	return api.Image{Hards: list(r, r.hard), Votes: list(r, r.vote)}
}

func (r *reader) hard() api.Hard {
	return api.Hard{Group: r.Int(), Term: r.Int(), Vote: r.Int(), Log: r.log(), Conf: r.conf(), Snap: r.Blob()}
}

func (r *reader) changes() []api.Change { return list(r, r.change) }

func (r *reader) change() api.Change {
	return api.Change{
		Kind: r.Int(), Group: r.Int(), Term: r.Int(), Voted: r.Int(), From: r.Int(),
		Log: r.log(), Conf: r.conf(), Snap: r.Blob(), Vote: r.vote(),
	}
}

func (r *reader) vote() api.Accepted {
	return api.Accepted{Txn: r.Int(), Part: r.Int(), Promised: r.Int(), Ballot: r.Int(), Value: r.Int()}
}

func (r *reader) log() api.Log {
	return api.Log{Base: r.Int(), BaseTerm: r.Int(), Entries: list(r, r.entry)}
}

func (r *reader) entry() api.Entry {
	return api.Entry{Term: r.Int(), Kind: r.Int(), Data: r.Blob()}
}

func (r *reader) conf() api.Conf {
	return api.Conf{Old: r.Ints(), New: r.Ints(), Learners: r.Ints()}
}
