package selector

import (
	"slices"
	"testing"

	"forme/api"
)

func TestEdges(t *testing.T) {
	top := api.Test{Kind: api.KindNote, Class: 100, ID: 1000000}
	if w, e := Weight(slices.Repeat([]api.Test{top}, api.MaxTests)); e != 0 || w != 8*10101 {
		t.Error(w, e)
	}
	for i, l := range [][]api.Test{nil, slices.Repeat([]api.Test{top}, api.MaxTests+1), {{Kind: -1}}, {{Kind: 12}}, {{Class: -1}}, {{Class: 101}}, {{ID: -1}}, {{ID: 1000001}}, {{Child: true}}, {{}, {Kind: 12}}} {
		if w, e := Weight(l); e != api.ErrArg || w != 0 || Valid(l) {
			t.Errorf("case %d: %v", i, e)
		}
	}
}
