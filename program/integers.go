package program

import (
	"forme/api"
	"forme/codec"
	"forme/intake"
)

// integers returns the integers of an operation that is well-formed.
func integers(o api.Op) []int {
	l := []int{o.Page, o.Y, o.H, len(o.Runs)}
	for _, r := range o.Runs {
		s, _ := codec.Text(r.Text)
		l = append(append(l, r.X), s...)
	}
	return l
}

// reader takes operations off a list of integers.
type reader struct{ *intake.Reader }

func (r reader) op() api.Op {
	o := api.Op{Page: r.Next(), Y: r.Next(), H: r.Next()}
	for range r.UpTo(mostRuns) {
		x := r.Next()
		o.Runs = append(o.Runs, api.Run{X: x, Text: r.Text()})
	}
	return o
}
