package zone

import (
	"slices"
	"testing"

	"forme/api"
)

func TestEdges(t *testing.T) {
	whole := api.Zone{Lang: 3, Scale: api.Range{Lo: 50, Hi: 300}, Width: api.Range{Lo: 200, Hi: 4000}}
	l := []api.Zone{whole}
	if n, e := Count(l); e != 0 || n != 251*3801 {
		t.Error(n, e)
	}
	for r, want := range map[api.Reader]bool{{Width: 200, Scale: 50, Lang: 3}: true, {Width: 4000, Scale: 300, Lang: 3}: true, {Width: 4000, Scale: 300, Lang: 0}: false} {
		if in, e := Has(l, r); in != want || e != 0 {
			t.Error(r, in, e)
		}
	}
	for _, r := range []api.Reader{{Width: 199, Scale: 50}, {Width: 4001, Scale: 50}, {Width: 200, Scale: 49}, {Width: 200, Scale: 301}, {Width: 200, Scale: 50, Lang: -1}, {Width: 200, Scale: 50, Lang: 4}} {
		if in, e := Has(l, r); in || e != api.ErrArg {
			t.Error(r, in, e)
		}
	}
	if n, e := Count([]api.Zone{{}}); n != 0 || e != api.ErrArg {
		t.Error(n, e)
	}
	many := slices.Repeat(l, api.MaxZones)
	if canon, e := Canon(many); e != 0 || !slices.Equal(canon, l) {
		t.Error(e)
	}
	if _, e := Canon(append(many, whole)); e != api.ErrArg {
		t.Error(e)
	}
	// 500 scales and languages with two widths each make just as many zones as there may be.
	var stripes []api.Zone
	for i := range 500 {
		for _, w := range []int{200 + i%2, 300} {
			stripes = append(stripes, api.Zone{Lang: i / 250, Scale: api.Range{Lo: 50 + i%250, Hi: 50 + i%250}, Width: api.Range{Lo: w, Hi: w}})
		}
	}
	if canon, e := Canon(stripes); e != 0 || !slices.Equal(canon, stripes) {
		t.Error(len(canon), e)
	}
	more := []api.Zone{{Lang: 3, Scale: api.Range{Lo: 50, Hi: 50}, Width: api.Range{Lo: 200, Hi: 200}}}
	if canon, e := Union(stripes, more); e != api.ErrLimit || canon != nil {
		t.Error(e)
	}
	if rest, e := Less(stripes, stripes[:1]); e != 0 || !slices.Equal(rest, stripes[1:]) {
		t.Error(e)
	}
}
