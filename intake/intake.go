// Package intake takes integers off lists. It is no layer: it is what the packages share that read what was written as integers.
package intake

import (
	"forme/api"
	"forme/codec"
)

// Reader takes integers off a list; it panics where there is none that can be there.
type Reader struct {
	l  []int
	at int
}

// New returns a reader of a list.
func New(l []int) *Reader { return &Reader{l: l} }

// Want panics if something is not so.
func (r *Reader) Want(ok bool) {
	if !ok {
		panic(api.ErrForm)
	}
}

// Next takes an integer.
func (r *Reader) Next() int {
	r.Want(r.at < len(r.l))
	r.at++
	return r.l[r.at-1]
}

// UpTo takes an integer from 0 to a greatest one.
func (r *Reader) UpTo(most int) int {
	n := r.Next()
	r.Want(n >= 0 && n <= most)
	return n
}

// Text takes the integers of a string.
func (r *Reader) Text() string {
	s, n, e := codec.Read(r.l[r.at:])
	r.Want(e == api.OK)
	r.at += n
	return s
}

// End panics if anything is left.
func (r *Reader) End() { r.Want(r.at == len(r.l)) }
