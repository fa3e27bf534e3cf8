package image

import (
	"glebe/api"
	"glebe/pack"
)

// Each function here answers b, which is this package's own memory, followed by the encoding of what it is handed.

// putList writes each element of a list by one.
func putList[T any](b []byte, l []T, one func([]byte, T) []byte) []byte {
	b = putInts(b, len(l))
	for _, x := range l {
		b = one(b, x)
	}
	return b
}

func putHard(b []byte, h api.Hard) []byte {
	b = putInts(b, h.Group, h.Term, h.Vote)
	return putBlob(putConf(putLog(b, h.Log), h.Conf), h.Snap)
}

func putChange(b []byte, c api.Change) []byte {
	b = putInts(b, c.Kind, c.Group, c.Term, c.Voted, c.From)
	return putVote(putBlob(putConf(putLog(b, c.Log), c.Conf), c.Snap), c.Vote)
}

func putVote(b []byte, v api.Accepted) []byte {
	return putInts(b, v.Txn, v.Part, v.Promised, v.Ballot, v.Value)
}

func putLog(b []byte, l api.Log) []byte {
	return putList(putInts(b, l.Base, l.BaseTerm), l.Entries, putEntry)
}

func putEntry(b []byte, e api.Entry) []byte {
	return putBlob(putInts(b, e.Term, e.Kind), e.Data)
}

func putConf(b []byte, c api.Conf) []byte {
	for _, l := range [...][]int{c.Old, c.New, c.Learners} {
		b = append(b, pack.Ints(nil, l)...)
	}
	return b
}

// putInts and putBlob encode on their own what they append, because pack copies all that stands ahead of it.
func putInts(b []byte, l ...int) []byte {
	for _, v := range l {
		b = append(b, pack.Int(nil, v)...)
	}
	return b
}

func putBlob(b, p []byte) []byte { return append(b, pack.Blob(nil, p)...) }
