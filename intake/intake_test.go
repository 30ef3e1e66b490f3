package intake

import "testing"

// panics reports whether something panics.
func panics(do func()) (bad bool) {
	defer func() { bad = recover() != nil }()
	do()
	return false
}

func TestReader(t *testing.T) {
	r := New([]int{5, 2, 97, 98, 3})
	if panics(func() {
		if r.Next() != 5 || r.Text() != "ab" || r.UpTo(3) != 3 {
			t.Error("what is taken")
		}
		r.End()
	}) {
		t.Error("a panic")
	}
	for i, do := range []func(){
		func() { r.Next() }, func() { r.Text() }, func() { r.UpTo(9) }, func() { New([]int{1}).End() }, func() { New([]int{4}).UpTo(3) }, func() { New([]int{-1}).UpTo(3) }, func() { New([]int{2, 97}).Text() }, func() { New(nil).Want(false) },
	} {
		if !panics(do) {
			t.Errorf("case %d does not panic", i)
		}
	}
}
