package program

import (
	"slices"
	"testing"

	"forme/api"
)

func TestEdges(t *testing.T) {
	const most = api.MaxCoord
	top := api.Page{Number: 500, Slices: []api.Slice{{Node: 1000000, X: most, Y: -most, H: most, Text: "a"}, {Node: 0, X: -most, Y: most}}}
	ops, e := Compile([]api.Page{{Number: 1, Slices: make([]api.Slice, 4000)}, top})
	if e != 0 || len(ops) != 3 || ops[1].H != most || ops[2].Y != most {
		t.Error(ops, e)
	}
	long := api.Op{Page: 500, Runs: slices.Repeat([]api.Run{{Text: "abcdef"}}, 500)}
	if p, root, e := Send([]api.Op{{Page: 1}, long}); e != api.ErrLimit || p != nil || root != 0 {
		t.Error(root, e)
	}
	if p, root, e := Send([]api.Op{{Page: 1, Y: -most}, {Page: 1, Y: most}, {Page: 2, Y: -most}}); e != 0 || len(p) != 3 || root == 0 {
		t.Error(e)
	}
}
