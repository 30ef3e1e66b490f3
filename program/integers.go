package program

import (
	"forme/api"
	"forme/codec"
)

// integers returns the integers of an operation that is well-formed.
func integers(o api.Op) []int {
	l := []int{o.Page, o.Y, o.H, len(o.Runs)}
	for _, r := range o.Runs {
		s, _ := codec.Text(r.Text)
		l = append(append(l, r.X), s...)
	}
	return l
}

// reader takes integers off a list; it panics where there is none that can be there.
type reader struct {
	l  []int
	at int
}

func (r *reader) want(ok bool) {
	if !ok {
		panic(api.ErrForm)
	}
}

func (r *reader) next() int {
	r.want(r.at < len(r.l))
	r.at++
	return r.l[r.at-1]
}

func (r *reader) run() api.Run {
	x := r.next()
	s, n, e := codec.Read(r.l[r.at:])
	r.want(e == api.OK)
	r.at += n
	return api.Run{X: x, Text: s}
}

func (r *reader) op() api.Op {
	o := api.Op{Page: r.next(), Y: r.next(), H: r.next()}
	n := r.next()
	r.want(n >= 0 && n <= mostRuns)
	for range n {
		o.Runs = append(o.Runs, r.run())
	}
	return o
}
