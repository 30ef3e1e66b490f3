package reads

import (
	"slices"
	"testing"

	"forme/api"
	"forme/sample"
)

func TestEdges(t *testing.T) {
	for i, x := range []struct {
		in   api.Input
		want bool
	}{
		{in(1, 1000000, 0), true}, {in(2, 1, 0), true}, {in(2, 1000000, 0), true}, {in(3, 0, 0), true}, {in(3, 200, 0), true}, {in(4, 0, 32), true}, {in(4, 7, 125), true}, {in(5, 0, 0), true}, {in(5, 3, 0), true},
		{in(2, 0, 0), false}, {in(2, 1, 1), false}, {in(3, 0, 1), false}, {in(4, -1, 50), false}, {in(5, -1, 0), false},
	} {
		met, e := Meet([]api.Input{x.in}, []api.Input{x.in})
		if met != x.want || (e == 0) != x.want {
			t.Errorf("case %d: %v, %v", i, met, e)
		}
	}
}

// TestFonts reads the glyphs of the last font, and none of a font that is not there.
func TestFonts(t *testing.T) {
	d := sample.Doc("rule 0 text { font: 1; } rule 0 note { font: 2; } rule 0 text when box < 5000 { pad: 1; }", sample.Root(), sample.Node(1000000, 1, api.KindText, 0, "a"), sample.Node(3, 1, api.KindNote, 0, "b"))
	d.Fonts = append(d.Fonts, sample.Font())
	want := []api.Input{in(1, 1, 0), in(1, 3, 0), in(1, 1000000, 0), in(2, 1, 0), in(2, 3, 0), in(2, 1000000, 0), in(3, 0, 0), in(3, 1, 0), in(3, 2, 0), in(4, 1, 'a'), in(5, 3, 0)}
	if l := reads(t, d, api.Reader{Width: 200, Scale: 100, Lang: 3}); !slices.Equal(l, want) {
		t.Error(l)
	}
}
